/- A part of the small machine. -/
import Derived.Test.YtjddbfpinjjkkaaGreatDoorEvW8
import Derived.Test.YtjddbfpinjjkkaaGreatDoorEvL16
set_option linter.unusedVariables false
namespace Go.Ev
open Go.RowKit
section
variable {P : Program} {I D : Known} {B : Nat} {m : Map} {M : Mem} {w : World}
noncomputable def zpo (D : Known) (P : Program) (cx : SCx) (n : Nat) (σ : Tree SV) (k : List SItem) (cs : List z81) (M : Mem) (ops : Array Oper) : Option Res :=
 Option.rec none (fun N => Option.rec none (fun x => some (.go (.mk cx n x.1 (.ops ops (ops.toList.drop N) :: k)) cs (unlift M.floor x.2))) (zbd D P n ops (ops.toList.take N) σ M)) (ztf ops)
theorem zrc {cx : SCx} {n : Nat} {σ : Tree SV} {k : List SItem} {cs : List z81} {ops : Array Oper} {r : Res} (h : zpo D P cx n σ k cs M ops = some r) : zj6 D P cx n σ k cs M ops = r := by
 unfold zpo at h
 unfold zj6
 cases h1 : ztf ops with
 | none => rw [h1] at h; cases h
 | some N =>
  rw [h1] at h
  dsimp only at h ⊢
  cases h2 : zbd D P n ops (ops.toList.take N) σ M with
  | none => rw [h2] at h; cases h
  | some x =>
   rw [h2] at h
   exact Option.some.inj h
noncomputable def zcs (ops : Array Oper) (i : Nat) : Nat := Nat.rec 0 (fun i ih => Bool.rec (Nat.succ i) ih (zbc ops i)) i
noncomputable def zqw (ops : Array Oper) : Option Nat :=
 match z9s ops && zhf ops (z94 ops.toList) && (Nat.blt (zcs ops ops.size) ops.size && Nat.blt (zgm ops (z94 ops.toList) false (zcs ops ops.size)) (zcs ops ops.size) && (List.range ops.size).all fun i => Nat.blt i (zgm ops (z94 ops.toList) false (zcs ops ops.size)) || (List.range (zgm ops (z94 ops.toList) false (zcs ops ops.size))).all fun k => zhw (z94 ops.toList) k i) with
 | true => some (zgm ops (z94 ops.toList) false (zcs ops ops.size))
 | false => none
theorem zqx {ops : Array Oper} {N : Nat} (h : zqw ops = some N) : z9s ops = true ∧ PureOK ops ∧ N ≤ ops.size ∧ ∀ i, N ≤ i → i < ops.size → ∀ k, k < N → Before ops k i := by
 unfold zqw at h
 split at h
 ·rename_i hb
  simp only [Option.some.injEq] at h
  rw [h] at hb
  rw [Bool.and_eq_true, Bool.and_eq_true, Bool.and_eq_true, Bool.and_eq_true, List.all_eq_true] at hb
  obtain ⟨⟨h1, h2⟩, ⟨h3, h5⟩, h4⟩ := hb
  have g3 := Nat.lt_of_succ_le (Nat.le_of_ble_eq_true h3)
  have g5 := Nat.lt_of_succ_le (Nat.le_of_ble_eq_true h5)
  refine ⟨h1, zdq h2, by omega, fun i hi hi' k hk => ?_⟩
  have := h4 i (List.mem_range.2 hi')
  rw [Bool.or_eq_true, List.all_eq_true] at this
  rcases this with e | e
  ·have := Nat.lt_of_succ_le (Nat.le_of_ble_eq_true e)
   omega
  ·exact z8o hi' (e k (List.mem_range.2 hk))
 ·simp at h
noncomputable def zow (D : Known) (P : Program) (cx : SCx) (n : Nat) (σ : Tree SV) (k : List SItem) (cs : List z81) (M : Mem) (ops : Array Oper) : Option Res :=
 Option.rec none (fun N => Option.rec none (fun x => some (.go (.mk cx n x.1 (.late ops N :: k)) cs (unlift M.floor x.2))) (zbd D P n ops (ops.toList.take N) σ M)) (zqw ops)
noncomputable def zi7 (ops : Array Oper) (i : Nat) : Bool := (List.range ops.size).all fun j => Nat.blt j i || zbc ops j
noncomputable def zs9 (I D : Known) (P : Program) (cx : SCx) (n : Nat) (σ : Tree SV) (k : List SItem) (cs : List z81) (M : Mem) (ops : Array Oper) (i : Nat) : Res :=
 Bool.rec (Option.rec .bad (fun o => opG I P cx n σ ops o (.late ops i) (.late ops (Nat.succ i)) k cs M) (zdn ops i)) (Option.rec .bad (fun x => .go (.mk cx n x.1 k) cs M) (zbd D P n ops (ops.toList.drop i) σ M)) (zi7 ops i)
noncomputable def zom (P : Program) (ops : Array Oper) (k : Nat) : Bool := match ops[k]? with
 | some o => z9r P o.op
 | none => false
noncomputable def zti (P : Program) (ops : Array Oper) (i : Nat) : Nat := Nat.rec 0 (fun i ih => Bool.rec (Nat.succ i) ih ((List.range i).all fun k => zhw (z94 ops.toList) k i || zom P ops k)) i
noncomputable def zu6 (P : Program) (ops : Array Oper) (N : Nat) : List Nat := (List.range N).filter fun k => zom P ops k && (List.range ops.size).any fun i => Nat.ble N i && !zhw (z94 ops.toList) k i
noncomputable def ztg (D : Known) (P : Program) (n : Nat) (all : Array Oper) (L : List Nat) : List Oper → Tree SV → Mem → Option (Tree SV × Mem)
 | [], σ, M => some (σ, M)
 | o :: r, σ, M => match zbx D P all M σ o with
  | none => none
  | some (s, M1) => match zam σ n o.dst s with
   | none => none
   | some σ1 => match z8g P all M1 σ1 L with
    | true => ztg D P n all L r σ1 M1
    | false => none
noncomputable def zsq (D : Known) (P : Program) (cx : SCx) (n : Nat) (σ : Tree SV) (k : List SItem) (cs : List z81) (M : Mem) (ops : Array Oper) (N : Nat) (L : List Nat) : Res :=
 match zsa P ops N L with
 | false => .bad
 | true => match zbd D P n ops (ops.toList.take N) σ M with
  | none => .bad
  | some (σ1, M1) => match z8g P ops (unlift M.floor M1) σ1 L with
   | false => .bad
   | true => match ztg D P n ops L (ops.toList.drop N) σ1 (unlift M.floor M1) with
    | none => .bad
    | some (σ', M') => .go (.mk cx n σ' k) cs M'
noncomputable def zre (D : Known) (P : Program) (cx : SCx) (n : Nat) (σ : Tree SV) (k : List SItem) (cs : List z81) (M : Mem) (ops : Array Oper) (r : Res) : Res :=
 Res.rec (zsq D P cx n σ k cs M ops (zti P ops ops.size) (zu6 P ops (zti P ops ops.size))) (fun f cs M => .go f cs M) (fun v M => .done v M) r
theorem zob (hD : ∀ B, Sound P B D) {all : Array Oper} {M : Mem} {σ : Tree SV} {o : Oper} {s : SV} {M' : Mem} (h : zbx D P all M σ o = some (s, M')) : zbi P all M σ o s M' := by
 unfold zbx at h
 unfold zbi
 split at h
 ·simp at h
 ·rename_i hw
  simp only [Option.some.injEq, Prod.mk.injEq] at h
  exact .inl ⟨hw, h.1.symm, h.2.symm⟩
 ·rename_i hw
  split at h
  ·rename_i s' M1 hx
   simp only [Option.some.injEq, Prod.mk.injEq] at h
   obtain ⟨rfl, rfl⟩ := h
   exact .inr ⟨hw, .inl hx⟩
  ·rename_i f xs M1 hx
   exact .inr ⟨hw, .inr ⟨f, xs, M1, hx, fun _ B m w vs hr ha c cs => hD B f xs M1 s M' h m w vs hr ha c cs⟩⟩
  ·simp at h
theorem zpa (hD : ∀ B, Sound P B D) {n : Nat} {all : Array Oper} : ∀ {r : List Oper} {σ σ' : Tree SV} {M M' : Mem}, zbd D P n all r σ M = some (σ', M') → PureR P n all r σ M σ' M'
 | [], _, _, _, _, h => by
  simp only [zbd, Option.some.injEq, Prod.mk.injEq] at h
  obtain ⟨rfl, rfl⟩ := h
  exact .nil
 | o :: r, σ, σ', M, M', h => by
  simp only [zbd] at h
  split at h
  ·simp at h
  ·rename_i s M1 he
   split at h
   ·simp at h
   ·rename_i σ1 hput
    exact .cons (zob hD he) hput (zpa hD h)
theorem zrr (hD : ∀ B, Sound P B D) {n : Nat} {all : Array Oper} {L : List Nat} : ∀ {r : List Oper} {σ σ' : Tree SV} {M M' : Mem}, ztg D P n all L r σ M = some (σ', M') → SeqL P n all L r σ M σ' M'
 | [], _, _, _, _, h => by
  simp only [ztg, Option.some.injEq, Prod.mk.injEq] at h
  obtain ⟨rfl, rfl⟩ := h
  exact .nil
 | o :: r, σ, σ', M, M', h => by
  simp only [ztg] at h
  split at h
  ·simp at h
  ·rename_i s M1 he
   split at h
   ·simp at h
   ·rename_i σ1 hput
    split at h
    ·rename_i hst
     exact .cons (zob hD he) hput hst (zrr hD h)
    ·simp at h
noncomputable def zuc (D : Known) (P : Program) (cx : SCx) (n : Nat) (σ : Tree SV) (k : List SItem) (cs : List z81) (M : Mem) (_ : Nat) (ops : Array Oper) (d : Bool) : Res :=
 Bool.rec (.go (.mk cx n σ (.ops ops ops.toList :: k)) cs M) (Option.rec (Option.rec (zre D P cx n σ k cs M ops (zc4 D P cx n σ k cs M ops)) (fun r => r) (zpo D P cx n σ k cs M ops)) (fun r => r) (zow D P cx n σ k cs M ops)) d
noncomputable def zts (D : Known) (P : Program) (cx : SCx) (n : Nat) (σ : Tree SV) (c : Code) (k : List SItem) (cs : List z81) (M : Mem) : Res :=
 Code.rec (motive := fun _ => Res) (cGo cx n σ cs M k) (zuc D P cx n σ k cs M) (fun a b _ _ => cGo cx n σ cs M (.code a :: .code b :: k)) (fun x a b _ _ => zqa cx n σ k cs M x a b)
  (fun id c _ => cGo cx n σ cs M (.code c :: .inBlock id :: k)) (fun c _ => cGo cx n σ cs M (.code c :: .inLoop c :: k)) (fun g ps assign body _ _ => zgd P cx n σ g ps assign body k cs M)
  (zqb cx n σ k cs M) (fun c _ => cGo cx n σ cs M (.code c :: .inScope c :: k)) (fun _ => cGo cx n σ cs M k) (fun _ => .bad) (zq3 P cx (some .ret) σ cs M) (fun _ => .bad) c
noncomputable def zu2 (I D : Known) (P : Program) (cx : SCx) (n : Nat) (σ : Tree SV) (cs : List z81) (M : Mem) (it : SItem) (k : List SItem) : Res :=
 SItem.rec (motive := fun _ => Res) (fun c => zts D P cx n σ c k cs M) (fun _ => cGo cx n σ cs M k) (fun c => cGo cx n σ cs M (.code c :: .inLoop c :: k)) (fun _ => cGo cx n σ cs M k) (fun all l => opL I P cx n all k cs l σ M)
  (zfc cx n σ k cs M) (fun _ => .bad) (fun l => zs3 cx n σ l k cs M) (fun all i => zs9 I D P cx n σ k cs M all i) it
noncomputable def zrs (I D : Known) (P : Program) (f : z81) (cs : List z81) (M : Mem) : Res :=
 z81.rec (fun cx n σ todo => List.rec (zq3 P cx none σ cs M) (fun it k _ => zu2 I D P cx n σ cs M it k) todo) f
noncomputable def runST (I D : Known) (P : Program) (k : Nat) : z81 → List z81 → Mem → Res :=
 Nat.rec (fun f cs M => zrs I D P f cs M) (fun _ ih f cs M => Res.rec .bad (fun f cs M => ih f cs M) (fun v M => .done v M) (ih f cs M)) k
theorem znc (I D : Known) (k : Nat) (f : z81) (cs : List z81) (M : Mem) :
  runST I D P (k + 1) f cs M = match runST I D P k f cs M with | .bad => .bad | .go f cs M => runST I D P k f cs M | .done v M => .done v M := by
 show Res.rec (motive := fun _ => Res) .bad (fun f cs M => runST I D P k f cs M) (fun v M => .done v M) (runST I D P k f cs M) = _
 cases runST I D P k f cs M <;> rfl
theorem zpp (hr : MRel B m M w) (hD : Sound P B D) (hmix : P.follows .mixedOrders = true) {cs0 : List Frame} {bt : FuncId} {cx : SCx} {n : Nat} {σ : Tree SV} {k : List SItem} {id : Nat} {ops : Array Oper} {fr : Frame} (hf : zaj m (.mk cx n σ (.code (.region id ops true) :: k)) fr) {cs : List z81} {frs : List Frame} (hc : z8p (zaj m) cs frs) (hb : zcn cx.fn cs = bt) :
  zd3 P B cs0 bt m M w (lone fr (frs ++ cs0) w) (zj6 D P cx n σ k cs M ops) := by
 obtain ⟨cc, tm, todo0, rfl, hcx, ht, hn, hk0⟩ := hf
 cases hk0 with
 | cons h1 hk =>
  rename_i it todo
  cases it <;> simp only [zak] at h1
  subst h1
  unfold zj6
  split
  next N hseq =>
   split
   next σ1 M1 hrun =>
    obtain ⟨hfw, hok, hNs, htail⟩ := zph hseq
    have hs0 := stepR_region_draw (P := P) (b := mkF cc tm []) (a := ⟨tm, cc.ds⟩) (k := todo) (cs := frs ++ cs0) (w := w) (ops := ops) (id := id)
    rw [hmix] at hs0
    have hr1 : MRel B m M { w with drawn := w.drawn + 1 } := hr.drew rfl
    obtain ⟨m', w', tm', hs, hst, ht', hn'⟩ := zju (P := P) hD hok hNs htail hrun hr1 ht hn (z92 hfw _) cc todo (frs ++ cs0)
    have hst' : z82 B m M w m' (unlift M.floor M1) w' := ⟨hst.rel, hst.same, hst.keep, hst.next, ⟨hst.below.os, hst.below.tape, hst.below.output, hst.below.size, hst.below.block⟩, hst.frame, hst.born, hst.under, hst.floor, hst.fixes, hst.news⟩
    have hext := hst'.ext hr
    exact ⟨_, frs, w', m', .head hs0 hs, hst', ⟨cc, tm', _, rfl, hcx.ext hext, ht', hn', .cons ⟨rfl, N, rfl, rfl⟩ (z8p.mono (fun _ _ => zak.ext hext) hk)⟩, z8w hext hc, hb⟩
   next => trivial
  next => trivial
noncomputable def itemL (P : Program) (f : Nat) (p : List Nat) (i : Nat) : SItem := .late (opsC (atC P f p)) i
theorem zox (hr : MRel B m M w) (hD : Sound P B D) (hmix : P.follows .mixedOrders = true) {cs0 : List Frame} {bt : FuncId} {cx : SCx} {n : Nat} {σ : Tree SV} {k : List SItem} {id : Nat} {ops : Array Oper} {fr : Frame} (hf : zaj m (.mk cx n σ (.code (.region id ops true) :: k)) fr) {cs : List z81} {frs : List Frame} (hc : z8p (zaj m) cs frs) (hb : zcn cx.fn cs = bt)
  {r : Res} (h : zow D P cx n σ k cs M ops = some r) : zd3 P B cs0 bt m M w (lone fr (frs ++ cs0) w) r := by
 obtain ⟨cc, tm, todo0, rfl, hcx, ht, hn, hk0⟩ := hf
 cases hk0 with
 | cons h1 hk =>
  rename_i it todo
  cases it <;> simp only [zak] at h1
  subst h1
  unfold zow at h
  cases hseq : zqw ops with
  | none => rw [hseq] at h; cases h
  | some N =>
   rw [hseq] at h
   dsimp only at h
   cases hrun : zbd D P n ops (ops.toList.take N) σ M with
   | none => rw [hrun] at h; cases h
   | some x =>
    rw [hrun] at h
    obtain ⟨σ1, M1⟩ := x
    cases Option.some.inj h
    obtain ⟨hfw, hok, hNs, htail⟩ := zqx hseq
    have hs0 := stepR_region_draw (P := P) (b := mkF cc tm []) (a := ⟨tm, cc.ds⟩) (k := todo) (cs := frs ++ cs0) (w := w) (ops := ops) (id := id)
    rw [hmix] at hs0
    have hr1 : MRel B m M { w with drawn := w.drawn + 1 } := hr.drew rfl
    obtain ⟨m', w', tm', rest1, S, hs, hst, ht', hn', tp, hS, hcl⟩ := zjv (P := P) hD hok hNs htail hrun hr1 ht hn (z92 hfw _) cc todo (frs ++ cs0)
    have hst' : z82 B m M w m' (unlift M.floor M1) w' := ⟨hst.rel, hst.same, hst.keep, hst.next, ⟨hst.below.os, hst.below.tape, hst.below.output, hst.below.size, hst.below.block⟩, hst.frame, hst.born, hst.under, hst.floor, hst.fixes, hst.news⟩
    have hext := hst'.ext hr
    exact ⟨_, frs, w', m', .head hs0 hs, hst', ⟨cc, tm', _, rfl, hcx.ext hext, ht', hn', .cons ⟨rfl, hok, S, tp, hS, hcl⟩ (z8p.mono (fun _ _ => zak.ext hext) hk)⟩, z8w hext hc, hb⟩
theorem zdw {N i0 : Nat} {all : Array Oper} {n : Nat} {Ms : Nat → Mem} {σs : Nat → Tree SV} {ss : Nat → SV} (hNs : N ≤ all.size) (ht : Trace D P n all N i0 Ms σs ss) {k : Nat} (hk : i0 ≤ k) : ∀ j, k + j ≤ N → ∀ t, (∀ i o, k ≤ i → i < k + j → all[i]? = some o → o.dst ≠ some t) → (σs (k + j)).get (Pos.ofNat t) = (σs k).get (Pos.ofNat t)
 | 0, _, _, _ => rfl
 | j + 1, hj, t, h => by
  have ho : all[k + j]? = some all[k + j] := Array.getElem?_eq_getElem (by omega)
  obtain ⟨_, hput⟩ := ht.st (k + j) _ (by omega) (by omega) ho
  show (σs (k + j + 1)).get _ = _
  rw [(z8u hput).1 t (h (k + j) _ (by omega) (by omega) ho), zdw hNs ht hk j (by omega) t fun i o hi hi' => h i o hi (by omega)]
theorem zn2 (hr : MRel B m M w) (hI : Sound P B I) (hD : Sound P B D) {cs0 : List Frame} {bt : FuncId} {cx : SCx} {n : Nat} {σ : Tree SV} {k : List SItem} {ops : Array Oper} {i : Nat} {fr : Frame} (hf : zaj m (.mk cx n σ (.late ops i :: k)) fr) {cs : List z81} {frs : List Frame} (hc : z8p (zaj m) cs frs) (hb : zcn cx.fn cs = bt) :
  zd3 P B cs0 bt m M w (lone fr (frs ++ cs0) w) (zs9 I D P cx n σ k cs M ops i) := by
 obtain ⟨cc, tm, todo0, rfl, hcx, ht, hn, hk0⟩ := hf
 cases hk0 with
 | cons h1 hk =>
  rename_i it todo
  cases it <;> simp only [zak] at h1
  obtain ⟨rfl, hok, S, tp, hS, hcl⟩ := h1
  unfold zs9
  cases hfree : zi7 ops i with
  | false =>
   dsimp only
   cases hh : zdn ops i with
   | none => trivial
   | some o =>
    obtain ⟨ho, hbef⟩ := zft hh
    obtain ⟨is', rfl, tp', hS', hcl'⟩ := zjk ho hbef tp hS hcl
    exact zm7 (a := .late _ i) (b := .late _ (Nat.succ i)) hr hI hcx ht hn ho (fun m => ⟨rfl, hok, S, tp, hS, hcl⟩) (fun m => ⟨rfl, hok, i :: S, tp', hS', hcl'⟩) hk hc hb
  | true =>
   dsimp only
   cases hrun : zbd D P n ops (ops.toList.drop i) σ M with
   | none => trivial
   | some x =>
    obtain ⟨σ', M'⟩ := x
    dsimp only
    by_cases hi : i ≤ ops.size
    ·have htk : (ops.toList.take ops.size).drop i = ops.toList.drop i := by rw [List.take_of_length_le (by simp)]
     obtain ⟨Ms, σs, ss, htr, e1, e2, e3, e4⟩ := zbs (Nat.le_refl _) (ops.toList.drop i) i σ M hi htk hrun
     have hfr : ∀ j o, i ≤ j → ops[j]? = some o → zfp o = true := by
      intro j o hj ho
      unfold zi7 at hfree
      rw [List.all_eq_true] at hfree
      have := hfree j (List.mem_range.2 (Array.getElem?_eq_some_iff.1 ho).1)
      rw [Bool.or_eq_true] at this
      rcases this with e | e
      ·have := Nat.lt_of_succ_le (Nat.le_of_ble_eq_true e); omega
      ·unfold zbc at e; rw [ho] at e; exact e
     obtain ⟨m2, w2, tm2, hs2, hst2, hT2, hn2⟩ := zme (P := P) (D := D) (n := n) hD hok (N := ops.size) (fun a h1 h2 => by omega) cc todo (frs ++ cs0) _ (r := []) (i := ops.size) (σ := σ') (σ' := σ') (M := M) (M' := M) (Nat.le_refl _) (Nat.le_refl _) (by simp) rfl hr
      (fun t s hts hcond => by
       refine ht t s ?_
       have := zdw (Nat.le_refl _) htr (Nat.le_refl i) (ops.size - i) (by omega) t fun a o h1 h2 h3 => hcond a o (by omega) (fun hin => by have := (hS a).1 hin; omega) h3
       rw [show i + (ops.size - i) = ops.size by omega, e4, e2] at this
       rw [← this]; exact hts) hn tp hcl (fun k hk => by have := (hS k).1 hk; omega) (fun a ha => by
       by_cases e : a < i
       ·exact .inl ((hS a).2 e)
       ·exact .inr ⟨ha, by unfold zbc; rw [Array.getElem?_eq_getElem ha]; exact hfr a _ (by omega) (Array.getElem?_eq_getElem ha)⟩)
      (fun a o ha haS ho => by
       have hia : i ≤ a := by
        apply Classical.byContradiction
        intro e
        exact haS ((hS a).2 (by omega))
       obtain ⟨he, hput⟩ := htr.st a o hia ha ho
       have hsame : ∀ b, a ≤ b → b ≤ ops.size → ∀ t, (∀ c o', a ≤ c → c < b → ops[c]? = some o' → o'.dst ≠ some t) → (σs b).get (Pos.ofNat t) = (σs a).get (Pos.ofNat t) := fun b h1 h2 t h3 => by
        have := zdw (Nat.le_refl _) htr hia (b - a) (by omega) t fun c o' g1 g2 g3 => h3 c o' g1 (by omega) g3
        rwa [show a + (b - a) = b by omega] at this
       refine ⟨ss a, ze7 (hfr a o hia ho) he fun t htr' => ?_, fun d hd => ?_⟩
       ·rw [← e4]
        refine (hsame _ (by omega) (Nat.le_refl _) t fun c o' g1 g2 g3 g4 => ?_).symm
        have := (hok.rd c a o o' t ho g3 g4 htr').2
        omega
       ·obtain ⟨hd1, hd2⟩ := (z8u hput).2 d hd
        refine ⟨?_, hd1⟩
        have := zdw (Nat.le_refl _) htr (k := a + 1) (by omega) (ops.size - (a + 1)) (by omega) d fun c o' g1 g2 g3 g4 => by
         have := hok.one a c o o' d ho g3 hd g4
         omega
        rw [show a + 1 + (ops.size - (a + 1)) = ops.size by omega, e4] at this
        rw [this]; exact hd2)
     have hext := hst2.ext hr
     exact ⟨_, frs, w2, m2, hs2, hst2, ⟨cc, tm2, _, rfl, hcx.ext hext, hT2, hn2, z8p.mono (fun _ _ => zak.ext hext) hk⟩, z8w hext hc, hb⟩
    ·have hd : ops.toList.drop i = [] := List.drop_eq_nil_of_le (by simp; omega)
     rw [hd] at hrun
     simp only [zbd, Option.some.injEq, Prod.mk.injEq] at hrun
     obtain ⟨rfl, rfl⟩ := hrun
     cases tp with
     | nil hall => exact ⟨_, frs, w, m, .one (stepR_region_end (P := P) (b := mkF cc tm []) (a := ⟨tm, cc.ds⟩)), .refl hr, ⟨cc, tm, _, rfl, hcx, ht, hn, hk⟩, hc, hb⟩
     | cons hj ho hp tp' =>
      have := (Array.getElem?_eq_some_iff.1 ho).1
      exact absurd ((hS _).2 (by omega)) hj
theorem zpq (hr : MRel B m M w) (hD : ∀ B, Sound P B D) (hmix : P.follows .mixedOrders = true) {cs0 : List Frame} {bt : FuncId} {cx : SCx} {n : Nat} {σ : Tree SV} {k : List SItem} {id : Nat} {ops : Array Oper} {fr : Frame} (hf : zaj m (.mk cx n σ (.code (.region id ops true) :: k)) fr) {cs : List z81} {frs : List Frame} (hc : z8p (zaj m) cs frs) (hb : zcn cx.fn cs = bt)
  (N : Nat) (L : List Nat) : zd3 P B cs0 bt m M w (lone fr (frs ++ cs0) w) (zsq D P cx n σ k cs M ops N L) := by
 obtain ⟨cc, tm, todo0, rfl, hcx, ht, hn, hk0⟩ := hf
 cases hk0 with
 | cons h1 hk =>
  rename_i it todo
  cases it <;> simp only [zak] at h1
  subst h1
  unfold zsq
  split
  next => trivial
  next hp =>
   split
   next => trivial
   next σ1 M1 hrun =>
    split
    next => trivial
    next hL0 =>
     split
     next => trivial
     next σ' M' hrun2 =>
      obtain ⟨hfw, hok, hNs, htail, hfl⟩ := zqy hp
      have hs0 := stepR_region_draw (P := P) (b := mkF cc tm []) (a := ⟨tm, cc.ds⟩) (k := todo) (cs := frs ++ cs0) (w := w) (ops := ops) (id := id)
      rw [hmix] at hs0
      have hr1 : MRel B m M { w with drawn := w.drawn + 1 } := hr.drew rfl
      obtain ⟨m', w', tm', hs, hst, ht', hn'⟩ := zn8 (P := P) hmix hok hfl hNs htail (zpa hD hrun) hL0 (zrr hD hrun2) hr1 ht hn (z92 hfw _) cc todo (frs ++ cs0)
      have hst' : z82 B m M w m' M' w' := ⟨hst.rel, hst.same, hst.keep, hst.next, ⟨hst.below.os, hst.below.tape, hst.below.output, hst.below.size, hst.below.block⟩, hst.frame, hst.born, hst.under, hst.floor, hst.fixes, hst.news⟩
      have hext := hst'.ext hr
      exact ⟨_, frs, w', m', .head hs0 hs, hst', ⟨cc, tm', _, rfl, hcx.ext hext, ht', hn', z8p.mono (fun _ _ => zak.ext hext) hk⟩, z8w hext hc, hb⟩
theorem zne (hr : MRel B m M w) (hI : Sound P B I) (hD : ∀ B, Sound P B D) (hmix : P.follows .mixedOrders = true) {cs0 : List Frame} {bt : FuncId} {f : z81} {fr : Frame} (hf : zaj m f fr) {cs : List z81} {frs : List Frame} (hc : z8p (zaj m) cs frs) (hb : zcn f.fn cs = bt) :
  zd3 P B cs0 bt m M w (lone fr (frs ++ cs0) w) (zrs I D P f cs M) := by
 have h := zpk (I := I) (D := D) hr hI (hD B) hmix (cs0 := cs0) hf hc hb
 obtain ⟨cx, n, σ, k⟩ := f
 cases k with
 | nil => exact h
 | cons it k =>
  cases it with
  | code c =>
   cases c with
   | region id ops d =>
    cases d with
    | false => exact h
    | true =>
     have h : zd3 P B cs0 bt m M w (lone fr (frs ++ cs0) w) (zre D P cx n σ k cs M ops (zc4 D P cx n σ k cs M ops)) := by
      have h' : zd3 P B cs0 bt m M w (lone fr (frs ++ cs0) w) (zc4 D P cx n σ k cs M ops) := h
      unfold zre
      cases e : zc4 D P cx n σ k cs M ops with
      | bad => exact zpq hr hD hmix hf hc hb _ _
      | go f cs M => rw [e] at h'; exact h'
      | done v M => rw [e] at h'; exact h'
     show zd3 P B cs0 bt m M w _ (Option.rec (Option.rec (zre D P cx n σ k cs M ops (zc4 D P cx n σ k cs M ops)) (fun r => r) (zpo D P cx n σ k cs M ops)) (fun r => r) (zow D P cx n σ k cs M ops))
     cases el : zow D P cx n σ k cs M ops with
     | some r => exact zox hr (hD B) hmix hf hc hb el
     | none =>
      have ht := zpp (D := D) hr (hD B) hmix (cs0 := cs0) hf hc hb
      dsimp only
      cases e : zpo D P cx n σ k cs M ops with
      | none => exact h
      | some r => rw [zrc e] at ht; exact ht
   | _ => exact h
  | late all i => exact zn2 hr hI (hD B) hf hc hb
  | _ => exact h
theorem zch (hI : Sound P B I) (hD : ∀ B, Sound P B D) (hmix : P.follows .mixedOrders = true) {cs0 : List Frame} {bt : FuncId} : ∀ (n : Nat) {m : Map} {M : Mem} {w : World} {f : z81} {fr : Frame} {cs : List z81} {frs : List Frame}, MRel B m M w → zaj m f fr → z8p (zaj m) cs frs → zcn f.fn cs = bt →
  zd3 P B cs0 bt m M w (lone fr (frs ++ cs0) w) (runST I D P n f cs M)
 | 0, _, _, _, _, _, _, _, hr, hf, hc, hb => zne hr hI hD hmix hf hc hb
 | n + 1, m, M, w, f, fr, cs, frs, hr, hf, hc, hb => by
  rw [znc]
  have h := zch hI hD hmix (cs0 := cs0) n hr hf hc hb
  split
  next => trivial
  next f' cs' M' he =>
   rw [he] at h
   obtain ⟨fr', frs', w', m', hs, hst, hf', hc', hb'⟩ := h
   have h2 := zch hI hD hmix (cs0 := cs0) n hst.rel hf' hc' hb'
   cases hres : runST I D P n f' cs' M' with
   | bad => trivial
   | go f2 cs2 M2 =>
    rw [hres] at h2
    obtain ⟨fr2, frs2, w2, m2, hs2, hst2, hf2, hc2⟩ := h2
    exact ⟨fr2, frs2, w2, m2, hs.trans hs2, hst.trans hst2, hf2, hc2⟩
   | done v2 M2 =>
    rw [hres] at h2
    obtain ⟨fr2, w2, m2, x, hs2, hst2, hv2, hl2⟩ := h2
    exact ⟨fr2, w2, m2, x, hs.trans hs2, hst.trans hst2, hv2, hl2⟩
  next v M' he =>
   rw [he] at h
   exact h
end
section
variable {P : Program} {I D : Known}
noncomputable def zl6 (I D : Known) (P : Program) (k : Nat) (f : FuncId) (xs : List SV) (M : Mem) : Res :=
 match enterS P f xs with
 | some g => runST I D P k g [] M
 | none => .bad
noncomputable def levelST (I : Known) (P : Program) (k : Nat) (d : Nat) : Known :=
 Nat.rec I (fun _ D f xs M => match I f xs M with
  | some r => some r
  | none => match zl6 I D P k f xs M with
   | .done v M => some (v, M)
   | _ => none) d
theorem zjl (I : Known) (k d : Nat) (f : FuncId) (xs : List SV) (M : Mem) : levelST I P k (d + 1) f xs M = match I f xs M with
  | some r => some r
  | none => match zl6 I (levelST I P k d) P k f xs M with
   | .done v M => some (v, M)
   | _ => none := rfl
theorem levelS_soundT {I : Known} (hI : ∀ B, Sound P B I) (hmix : P.follows .mixedOrders = true) (k : Nat) : ∀ d B, Sound P B (levelST I P k d)
 | 0, B => hI B
 | d + 1, B => by
  intro f xs M s M' h
  rw [zjl] at h
  split at h
  ·rename_i r hr
   simp only [Option.some.injEq] at h
   subst h
   exact hI B f xs M s M' hr
  ·split at h
   ·rename_i v M1 hs
    simp only [Option.some.injEq, Prod.mk.injEq] at h
    obtain ⟨rfl, rfl⟩ := h
    intro m w vs hr has c cs
    unfold zl6 at hs
    split at hs
    ·rename_i g hg
     have hb : zcn g.fn [] = f := by
      unfold enterS at hg
      split at hg
      ·simp at hg
      ·split at hg
       ·simp only [Option.some.injEq] at hg; subst hg; rfl
       ·simp at hg
     have := zch (hI B) (levelS_soundT hI hmix k d) hmix (cs0 := c :: cs) k hr (za2 hg has) (z8p.nil (R := zaj m)) hb
     rw [hs] at this
     obtain ⟨fr, w', m', x, h1, h2, h3, h4, _⟩ := this
     exact ⟨m', w', x, h2, h3, h1.trans (.one (step_leave_returned h4))⟩
    ·simp at hs
   ·simp at h
noncomputable def nextST (I D : Known) (P : Program) (k : Nat) (s' s : St) : Option St :=
 match runST I D P k s.f s.cs s.M with
 | .go f cs M => match Nat.beq cs.length s'.cs.length with
  | true => some ⟨zst s'.f f, znv s'.cs cs, zu7 s'.M M⟩
  | false => none
 | _ => none
theorem way_nextT (hI : ∀ B, Sound P B I) (hD : ∀ B, Sound P B D) (hmix : P.follows .mixedOrders = true) (k : Nat) {s s' : St} (h : nextST I D P k s' s = some s') : Way P s s' := by
 intro B cs0 bt w0 mach hr
 obtain ⟨m, w, fr, frs, hs, hm, hf, hc, hb, hw⟩ := hr
 have hg := zch (hI B) hD hmix (cs0 := cs0) (bt := bt) k hm hf hc hb
 unfold nextST at h
 split at h
 ·rename_i f cs M hrun
  rw [hrun] at hg
  obtain ⟨fr', frs', w', m', hs', hst, hf', hc', hb'⟩ := hg
  split at h
  ·rename_i hl
   have hl' : cs.length = s'.cs.length := Nat.eq_of_beq_eq_true hl
   have h1 := zlo s'.f hf'
   have h2 := zj9 s'.cs hc' hl'
   have h3 := zqd s'.M hst.rel
   have h' := Option.some.inj h
   refine ⟨m', w', fr', frs', hs.trans hs', ?_, ?_, ?_, ?_, hw.trans hst.below⟩
   ·rw [← h']; exact h3
   ·rw [← h']; exact h1.1
   ·rw [← h']; exact h2.1
   ·rw [← h']
    show zcn (zst s'.f f).fn (znv s'.cs cs) = bt
    rw [h2.2, h1.2]
    exact hb'
  ·simp at h
 ·simp at h
theorem call_way_memT (hI : ∀ B, Sound P B I) (hD : ∀ B, Sound P B D) (hmix : P.follows .mixedOrders = true) (k : Nat) {f : FuncId} {s : St} {M : Mem} (hg : (enterS P f []).isSome = true) (h : Way P (startM P f M) s) (he : endsTrue (runST I D P k s.f s.cs s.M) = true) {w : World} {m : Map} (hr : MRel w.heap.size m M w) :
  Calls P f #[] w fun e w' => e = .returned (.bool true) ∧ Below w.heap.size w w' := by
 intro cs0
 cases hgg : enterS P f [] with
 | none => rw [hgg] at hg; simp at hg
 | some g =>
  have hst : startM P f M = ⟨g, [], M⟩ := by unfold startM; rw [hgg]; rfl
  have hfr := za2 (m := m) (vs := #[]) hgg (concs_nil _)
  have r0 : zrw P w.heap.size cs0 f w (lone (Frame.enter P f #[] .normal) cs0 w) (startM P f M) := by
   rw [hst]
   exact ⟨m, w, _, [], .refl _ _, hr, hfr, .nil, zdh hgg, Below.refl _ _⟩
  obtain ⟨m, w1, fr, frs, hs, hm, hf, hc, hb, hw⟩ := h _ _ _ _ _ r0
  have hrun := zch (hI _) hD hmix (cs0 := cs0) (bt := f) k hm hf hc hb
  obtain ⟨M', hM⟩ := zkl he
  rw [hM] at hrun
  obtain ⟨fr', w', m', x, hs', hst', hv, hl, hfn⟩ := hrun
  have hx : x = .bool true := by simp [conc] at hv; exact hv.symm
  subst hx
  exact ⟨.returned (.bool true), w', fr', ⟨rfl, hw.trans hst'.below⟩, hs.trans hs', hfn, hl⟩
end
end Go.Ev
