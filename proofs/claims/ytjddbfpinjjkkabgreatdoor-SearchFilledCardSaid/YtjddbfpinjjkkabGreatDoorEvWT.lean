/- A part of the small machine. -/
import Derived.Test.YtjddbfpinjjkkabGreatDoorEvW8
import Derived.Test.YtjddbfpinjjkkabGreatDoorEvL16
set_option linter.unusedVariables false
namespace Go.Ev
open Go.RowKit
section
variable {P : Program} {I D : Known} {B : Nat} {m : Map} {M : Mem} {w : World}
noncomputable def tailT (D : Known) (P : Program) (cx : SCx) (n : Nat) (σ : Tree SV) (k : List SItem) (cs : List SFrame) (M : Mem) (ops : Array Oper) : Option Res :=
  Option.rec none (fun N => Option.rec none (fun x => some (.go (.mk cx n x.1 (.ops ops (ops.toList.drop N) :: k)) cs (unlift M.floor x.2))) (pureS D P n ops (ops.toList.take N) σ M)) (seqP ops)
theorem tailT_eq {cx : SCx} {n : Nat} {σ : Tree SV} {k : List SItem} {cs : List SFrame} {ops : Array Oper} {r : Res} (h : tailT D P cx n σ k cs M ops = some r) : cTail D P cx n σ k cs M ops = r := by
  unfold tailT at h
  unfold cTail
  cases h1 : seqP ops with
  | none => rw [h1] at h; cases h
  | some N =>
    rw [h1] at h
    dsimp only at h ⊢
    cases h2 : pureS D P n ops (ops.toList.take N) σ M with
    | none => rw [h2] at h; cases h
    | some x =>
      rw [h2] at h
      exact Option.some.inj h
noncomputable def freeTail (ops : Array Oper) (i : Nat) : Nat := Nat.rec 0 (fun i ih => Bool.rec (Nat.succ i) ih (freeAt ops i)) i
noncomputable def lateN (ops : Array Oper) : Option Nat :=
  match forward ops && pureOK ops (masks ops.toList) && (Nat.blt (freeTail ops ops.size) ops.size && Nat.blt (tailN ops (masks ops.toList) false (freeTail ops ops.size)) (freeTail ops ops.size) && (List.range ops.size).all fun i => Nat.blt i (tailN ops (masks ops.toList) false (freeTail ops ops.size)) || (List.range (tailN ops (masks ops.toList) false (freeTail ops ops.size))).all fun k => befB (masks ops.toList) k i) with
  | true => some (tailN ops (masks ops.toList) false (freeTail ops ops.size))
  | false => none
theorem lateN_ok {ops : Array Oper} {N : Nat} (h : lateN ops = some N) : forward ops = true ∧ PureOK ops ∧ N ≤ ops.size ∧ ∀ i, N ≤ i → i < ops.size → ∀ k, k < N → Before ops k i := by
  unfold lateN at h
  split at h
  · rename_i hb
    simp only [Option.some.injEq] at h
    rw [h] at hb
    rw [Bool.and_eq_true, Bool.and_eq_true, Bool.and_eq_true, Bool.and_eq_true, List.all_eq_true] at hb
    obtain ⟨⟨h1, h2⟩, ⟨h3, h5⟩, h4⟩ := hb
    have g3 := Nat.lt_of_succ_le (Nat.le_of_ble_eq_true h3)
    have g5 := Nat.lt_of_succ_le (Nat.le_of_ble_eq_true h5)
    refine ⟨h1, pureOK_ok h2, by omega, fun i hi hi' k hk => ?_⟩
    have := h4 i (List.mem_range.2 hi')
    rw [Bool.or_eq_true, List.all_eq_true] at this
    rcases this with e | e
    · have := Nat.lt_of_succ_le (Nat.le_of_ble_eq_true e)
      omega
    · exact befB_before hi' (e k (List.mem_range.2 hk))
  · simp at h
noncomputable def lateT (D : Known) (P : Program) (cx : SCx) (n : Nat) (σ : Tree SV) (k : List SItem) (cs : List SFrame) (M : Mem) (ops : Array Oper) : Option Res :=
  Option.rec none (fun N => Option.rec none (fun x => some (.go (.mk cx n x.1 (.late ops N :: k)) cs (unlift M.floor x.2))) (pureS D P n ops (ops.toList.take N) σ M)) (lateN ops)
noncomputable def freeFrom (ops : Array Oper) (i : Nat) : Bool := (List.range ops.size).all fun j => Nat.blt j i || freeAt ops j
noncomputable def lateI (I D : Known) (P : Program) (cx : SCx) (n : Nat) (σ : Tree SV) (k : List SItem) (cs : List SFrame) (M : Mem) (ops : Array Oper) (i : Nat) : Res :=
  Bool.rec (Option.rec .bad (fun o => opG I P cx n σ ops o (.late ops i) (.late ops (Nat.succ i)) k cs M) (lateHead ops i)) (Option.rec .bad (fun x => .go (.mk cx n x.1 k) cs M) (pureS D P n ops (ops.toList.drop i) σ M)) (freeFrom ops i)
noncomputable def floatAt (P : Program) (ops : Array Oper) (k : Nat) : Bool := match ops[k]? with
  | some o => floatOp P o.op
  | none => false
noncomputable def tailW (P : Program) (ops : Array Oper) (i : Nat) : Nat := Nat.rec 0 (fun i ih => Bool.rec (Nat.succ i) ih ((List.range i).all fun k => befB (masks ops.toList) k i || floatAt P ops k)) i
noncomputable def waitL (P : Program) (ops : Array Oper) (N : Nat) : List Nat := (List.range N).filter fun k => floatAt P ops k && (List.range ops.size).any fun i => Nat.ble N i && !befB (masks ops.toList) k i
noncomputable def seqW (D : Known) (P : Program) (n : Nat) (all : Array Oper) (L : List Nat) : List Oper → Tree SV → Mem → Option (Tree SV × Mem)
  | [], σ, M => some (σ, M)
  | o :: r, σ, M => match evalP D P all M σ o with
    | none => none
    | some (s, M1) => match putD σ n o.dst s with
      | none => none
      | some σ1 => match allStill P all M1 σ1 L with
        | true => seqW D P n all L r σ1 M1
        | false => none
noncomputable def waitR (D : Known) (P : Program) (cx : SCx) (n : Nat) (σ : Tree SV) (k : List SItem) (cs : List SFrame) (M : Mem) (ops : Array Oper) (N : Nat) (L : List Nat) : Res :=
  match lateP P ops N L with
  | false => .bad
  | true => match pureS D P n ops (ops.toList.take N) σ M with
    | none => .bad
    | some (σ1, M1) => match allStill P ops (unlift M.floor M1) σ1 L with
      | false => .bad
      | true => match seqW D P n ops L (ops.toList.drop N) σ1 (unlift M.floor M1) with
        | none => .bad
        | some (σ', M') => .go (.mk cx n σ' k) cs M'
noncomputable def waitT (D : Known) (P : Program) (cx : SCx) (n : Nat) (σ : Tree SV) (k : List SItem) (cs : List SFrame) (M : Mem) (ops : Array Oper) (r : Res) : Res :=
  Res.rec (waitR D P cx n σ k cs M ops (tailW P ops ops.size) (waitL P ops (tailW P ops ops.size))) (fun f cs M => .go f cs M) (fun v M => .done v M) r
theorem evalP_R (hD : ∀ B, Sound P B D) {all : Array Oper} {M : Mem} {σ : Tree SV} {o : Oper} {s : SV} {M' : Mem} (h : evalP D P all M σ o = some (s, M')) : EvalR P all M σ o s M' := by
  unfold evalP at h
  unfold EvalR
  split at h
  · simp at h
  · rename_i hw
    simp only [Option.some.injEq, Prod.mk.injEq] at h
    exact .inl ⟨hw, h.1.symm, h.2.symm⟩
  · rename_i hw
    split at h
    · rename_i s' M1 hx
      simp only [Option.some.injEq, Prod.mk.injEq] at h
      obtain ⟨rfl, rfl⟩ := h
      exact .inr ⟨hw, .inl hx⟩
    · rename_i f xs M1 hx
      exact .inr ⟨hw, .inr ⟨f, xs, M1, hx, fun _ B m w vs hr ha c cs => hD B f xs M1 s M' h m w vs hr ha c cs⟩⟩
    · simp at h
theorem pureS_R (hD : ∀ B, Sound P B D) {n : Nat} {all : Array Oper} : ∀ {r : List Oper} {σ σ' : Tree SV} {M M' : Mem}, pureS D P n all r σ M = some (σ', M') → PureR P n all r σ M σ' M'
  | [], _, _, _, _, h => by
    simp only [pureS, Option.some.injEq, Prod.mk.injEq] at h
    obtain ⟨rfl, rfl⟩ := h
    exact .nil
  | o :: r, σ, σ', M, M', h => by
    simp only [pureS] at h
    split at h
    · simp at h
    · rename_i s M1 he
      split at h
      · simp at h
      · rename_i σ1 hput
        exact .cons (evalP_R hD he) hput (pureS_R hD h)
theorem seqW_R (hD : ∀ B, Sound P B D) {n : Nat} {all : Array Oper} {L : List Nat} : ∀ {r : List Oper} {σ σ' : Tree SV} {M M' : Mem}, seqW D P n all L r σ M = some (σ', M') → SeqL P n all L r σ M σ' M'
  | [], _, _, _, _, h => by
    simp only [seqW, Option.some.injEq, Prod.mk.injEq] at h
    obtain ⟨rfl, rfl⟩ := h
    exact .nil
  | o :: r, σ, σ', M, M', h => by
    simp only [seqW] at h
    split at h
    · simp at h
    · rename_i s M1 he
      split at h
      · simp at h
      · rename_i σ1 hput
        split at h
        · rename_i hst
          exact .cons (evalP_R hD he) hput hst (seqW_R hD h)
        · simp at h
noncomputable def regT (D : Known) (P : Program) (cx : SCx) (n : Nat) (σ : Tree SV) (k : List SItem) (cs : List SFrame) (M : Mem) (_ : Nat) (ops : Array Oper) (d : Bool) : Res :=
  Bool.rec (.go (.mk cx n σ (.ops ops ops.toList :: k)) cs M) (Option.rec (Option.rec (waitT D P cx n σ k cs M ops (cRegion D P cx n σ k cs M ops)) (fun r => r) (tailT D P cx n σ k cs M ops)) (fun r => r) (lateT D P cx n σ k cs M ops)) d
noncomputable def codeT (D : Known) (P : Program) (cx : SCx) (n : Nat) (σ : Tree SV) (c : Code) (k : List SItem) (cs : List SFrame) (M : Mem) : Res :=
  Code.rec (motive := fun _ => Res) (cGo cx n σ cs M k) (regT D P cx n σ k cs M) (fun a b _ _ => cGo cx n σ cs M (.code a :: .code b :: k)) (fun x a b _ _ => cCond cx n σ k cs M x a b)
    (fun id c _ => cGo cx n σ cs M (.code c :: .inBlock id :: k)) (fun c _ => cGo cx n σ cs M (.code c :: .inLoop c :: k)) (fun g ps assign body _ _ => rangeS P cx n σ g ps assign body k cs M)
    (cExit cx n σ k cs M) (fun c _ => cGo cx n σ cs M (.code c :: .inScope c :: k)) (fun _ => cGo cx n σ cs M k) (fun _ => .bad) (retS P cx (some .ret) σ cs M) (fun _ => .bad) c
noncomputable def itemT (I D : Known) (P : Program) (cx : SCx) (n : Nat) (σ : Tree SV) (cs : List SFrame) (M : Mem) (it : SItem) (k : List SItem) : Res :=
  SItem.rec (motive := fun _ => Res) (fun c => codeT D P cx n σ c k cs M) (fun _ => cGo cx n σ cs M k) (fun c => cGo cx n σ cs M (.code c :: .inLoop c :: k)) (fun _ => cGo cx n σ cs M k) (fun all l => opL I P cx n all k cs l σ M)
    (beginS cx n σ k cs M) (fun _ => .bad) (fun l => endS cx n σ l k cs M) (fun all i => lateI I D P cx n σ k cs M all i) it
noncomputable def stepST (I D : Known) (P : Program) (f : SFrame) (cs : List SFrame) (M : Mem) : Res :=
  SFrame.rec (fun cx n σ todo => List.rec (retS P cx none σ cs M) (fun it k _ => itemT I D P cx n σ cs M it k) todo) f
noncomputable def runST (I D : Known) (P : Program) (k : Nat) : SFrame → List SFrame → Mem → Res :=
  Nat.rec (fun f cs M => stepST I D P f cs M) (fun _ ih f cs M => Res.rec .bad (fun f cs M => ih f cs M) (fun v M => .done v M) (ih f cs M)) k
theorem runS_succT (I D : Known) (k : Nat) (f : SFrame) (cs : List SFrame) (M : Mem) :
    runST I D P (k + 1) f cs M = match runST I D P k f cs M with | .bad => .bad | .go f cs M => runST I D P k f cs M | .done v M => .done v M := by
  show Res.rec (motive := fun _ => Res) .bad (fun f cs M => runST I D P k f cs M) (fun v M => .done v M) (runST I D P k f cs M) = _
  cases runST I D P k f cs M <;> rfl
theorem tail_goes (hr : MRel B m M w) (hD : Sound P B D) (hmix : P.follows .mixedOrders = true) {cs0 : List Frame} {bt : FuncId} {cx : SCx} {n : Nat} {σ : Tree SV} {k : List SItem} {id : Nat} {ops : Array Oper} {fr : Frame} (hf : FRel m (.mk cx n σ (.code (.region id ops true) :: k)) fr) {cs : List SFrame} {frs : List Frame} (hc : All2 (FRel m) cs frs) (hb : botF cx.fn cs = bt) :
    Goes P B cs0 bt m M w (lone fr (frs ++ cs0) w) (cTail D P cx n σ k cs M ops) := by
  obtain ⟨cc, tm, todo0, rfl, hcx, ht, hn, hk0⟩ := hf
  cases hk0 with
  | cons h1 hk =>
    rename_i it todo
    cases it <;> simp only [IRel] at h1
    subst h1
    unfold cTail
    split
    next N hseq =>
      split
      next σ1 M1 hrun =>
        obtain ⟨hfw, hok, hNs, htail⟩ := seqP_ok hseq
        have hs0 := stepR_region_draw (P := P) (b := mkF cc tm []) (a := ⟨tm, cc.ds⟩) (k := todo) (cs := frs ++ cs0) (w := w) (ops := ops) (id := id)
        rw [hmix] at hs0
        have hr1 : MRel B m M { w with drawn := w.drawn + 1 } := hr.drew rfl
        obtain ⟨m', w', tm', hs, hst, ht', hn'⟩ := pure_head (P := P) hD hok hNs htail hrun hr1 ht hn (schedule_topo hfw _) cc todo (frs ++ cs0)
        have hst' : Stepped B m M w m' (unlift M.floor M1) w' := ⟨hst.rel, hst.same, hst.keep, hst.next, ⟨hst.below.os, hst.below.tape, hst.below.output, hst.below.size, hst.below.block⟩, hst.frame, hst.born, hst.under, hst.floor, hst.fixes, hst.news⟩
        have hext := hst'.ext hr
        exact ⟨_, frs, w', m', .head hs0 hs, hst', ⟨cc, tm', _, rfl, hcx.ext hext, ht', hn', .cons ⟨rfl, N, rfl, rfl⟩ (All2.mono (fun _ _ => IRel.ext hext) hk)⟩, all2_ext hext hc, hb⟩
      next => trivial
    next => trivial
theorem late_goes (hr : MRel B m M w) (hD : Sound P B D) (hmix : P.follows .mixedOrders = true) {cs0 : List Frame} {bt : FuncId} {cx : SCx} {n : Nat} {σ : Tree SV} {k : List SItem} {id : Nat} {ops : Array Oper} {fr : Frame} (hf : FRel m (.mk cx n σ (.code (.region id ops true) :: k)) fr) {cs : List SFrame} {frs : List Frame} (hc : All2 (FRel m) cs frs) (hb : botF cx.fn cs = bt)
    {r : Res} (h : lateT D P cx n σ k cs M ops = some r) : Goes P B cs0 bt m M w (lone fr (frs ++ cs0) w) r := by
  obtain ⟨cc, tm, todo0, rfl, hcx, ht, hn, hk0⟩ := hf
  cases hk0 with
  | cons h1 hk =>
    rename_i it todo
    cases it <;> simp only [IRel] at h1
    subst h1
    unfold lateT at h
    cases hseq : lateN ops with
    | none => rw [hseq] at h; cases h
    | some N =>
      rw [hseq] at h
      dsimp only at h
      cases hrun : pureS D P n ops (ops.toList.take N) σ M with
      | none => rw [hrun] at h; cases h
      | some x =>
        rw [hrun] at h
        obtain ⟨σ1, M1⟩ := x
        cases Option.some.inj h
        obtain ⟨hfw, hok, hNs, htail⟩ := lateN_ok hseq
        have hs0 := stepR_region_draw (P := P) (b := mkF cc tm []) (a := ⟨tm, cc.ds⟩) (k := todo) (cs := frs ++ cs0) (w := w) (ops := ops) (id := id)
        rw [hmix] at hs0
        have hr1 : MRel B m M { w with drawn := w.drawn + 1 } := hr.drew rfl
        obtain ⟨m', w', tm', rest1, S, hs, hst, ht', hn', tp, hS, hcl⟩ := pure_late (P := P) hD hok hNs htail hrun hr1 ht hn (schedule_topo hfw _) cc todo (frs ++ cs0)
        have hst' : Stepped B m M w m' (unlift M.floor M1) w' := ⟨hst.rel, hst.same, hst.keep, hst.next, ⟨hst.below.os, hst.below.tape, hst.below.output, hst.below.size, hst.below.block⟩, hst.frame, hst.born, hst.under, hst.floor, hst.fixes, hst.news⟩
        have hext := hst'.ext hr
        exact ⟨_, frs, w', m', .head hs0 hs, hst', ⟨cc, tm', _, rfl, hcx.ext hext, ht', hn', .cons ⟨rfl, hok, S, tp, hS, hcl⟩ (All2.mono (fun _ _ => IRel.ext hext) hk)⟩, all2_ext hext hc, hb⟩
theorem sig_fromI {N i0 : Nat} {all : Array Oper} {n : Nat} {Ms : Nat → Mem} {σs : Nat → Tree SV} {ss : Nat → SV} (hNs : N ≤ all.size) (ht : Trace D P n all N i0 Ms σs ss) {k : Nat} (hk : i0 ≤ k) : ∀ j, k + j ≤ N → ∀ t, (∀ i o, k ≤ i → i < k + j → all[i]? = some o → o.dst ≠ some t) → (σs (k + j)).get (Pos.ofNat t) = (σs k).get (Pos.ofNat t)
  | 0, _, _, _ => rfl
  | j + 1, hj, t, h => by
    have ho : all[k + j]? = some all[k + j] := Array.getElem?_eq_getElem (by omega)
    obtain ⟨_, hput⟩ := ht.st (k + j) _ (by omega) (by omega) ho
    show (σs (k + j + 1)).get _ = _
    rw [(putD_inv hput).1 t (h (k + j) _ (by omega) (by omega) ho), sig_fromI hNs ht hk j (by omega) t fun i o hi hi' => h i o hi (by omega)]
theorem lateI_goes (hr : MRel B m M w) (hI : Sound P B I) (hD : Sound P B D) {cs0 : List Frame} {bt : FuncId} {cx : SCx} {n : Nat} {σ : Tree SV} {k : List SItem} {ops : Array Oper} {i : Nat} {fr : Frame} (hf : FRel m (.mk cx n σ (.late ops i :: k)) fr) {cs : List SFrame} {frs : List Frame} (hc : All2 (FRel m) cs frs) (hb : botF cx.fn cs = bt) :
    Goes P B cs0 bt m M w (lone fr (frs ++ cs0) w) (lateI I D P cx n σ k cs M ops i) := by
  obtain ⟨cc, tm, todo0, rfl, hcx, ht, hn, hk0⟩ := hf
  cases hk0 with
  | cons h1 hk =>
    rename_i it todo
    cases it <;> simp only [IRel] at h1
    obtain ⟨rfl, hok, S, tp, hS, hcl⟩ := h1
    unfold lateI
    cases hfree : freeFrom ops i with
    | false =>
      dsimp only
      cases hh : lateHead ops i with
      | none => trivial
      | some o =>
        obtain ⟨ho, hbef⟩ := lateHead_ok hh
        obtain ⟨is', rfl, tp', hS', hcl'⟩ := late_next ho hbef tp hS hcl
        exact opG_goes (a := .late _ i) (b := .late _ (Nat.succ i)) hr hI hcx ht hn ho (fun m => ⟨rfl, hok, S, tp, hS, hcl⟩) (fun m => ⟨rfl, hok, i :: S, tp', hS', hcl'⟩) hk hc hb
    | true =>
      dsimp only
      cases hrun : pureS D P n ops (ops.toList.drop i) σ M with
      | none => trivial
      | some x =>
        obtain ⟨σ', M'⟩ := x
        dsimp only
        by_cases hi : i ≤ ops.size
        · have htk : (ops.toList.take ops.size).drop i = ops.toList.drop i := by rw [List.take_of_length_le (by simp)]
          obtain ⟨Ms, σs, ss, htr, e1, e2, e3, e4⟩ := pureS_trace (Nat.le_refl _) (ops.toList.drop i) i σ M hi htk hrun
          have hfr : ∀ j o, i ≤ j → ops[j]? = some o → freeOp o = true := by
            intro j o hj ho
            unfold freeFrom at hfree
            rw [List.all_eq_true] at hfree
            have := hfree j (List.mem_range.2 (Array.getElem?_eq_some_iff.1 ho).1)
            rw [Bool.or_eq_true] at this
            rcases this with e | e
            · have := Nat.lt_of_succ_le (Nat.le_of_ble_eq_true e); omega
            · unfold freeAt at e; rw [ho] at e; exact e
          obtain ⟨m2, w2, tm2, hs2, hst2, hT2, hn2⟩ := seq_runs (P := P) (D := D) (n := n) hD hok (N := ops.size) (fun a h1 h2 => by omega) cc todo (frs ++ cs0) _ (r := []) (i := ops.size) (σ := σ') (σ' := σ') (M := M) (M' := M) (Nat.le_refl _) (Nat.le_refl _) (by simp) rfl hr
            (fun t s hts hcond => by
              refine ht t s ?_
              have := sig_fromI (Nat.le_refl _) htr (Nat.le_refl i) (ops.size - i) (by omega) t fun a o h1 h2 h3 => hcond a o (by omega) (fun hin => by have := (hS a).1 hin; omega) h3
              rw [show i + (ops.size - i) = ops.size by omega, e4, e2] at this
              rw [← this]; exact hts) hn tp hcl (fun k hk => by have := (hS k).1 hk; omega) (fun a ha => by
              by_cases e : a < i
              · exact .inl ((hS a).2 e)
              · exact .inr ⟨ha, by unfold freeAt; rw [Array.getElem?_eq_getElem ha]; exact hfr a _ (by omega) (Array.getElem?_eq_getElem ha)⟩)
            (fun a o ha haS ho => by
              have hia : i ≤ a := by
                apply Classical.byContradiction
                intro e
                exact haS ((hS a).2 (by omega))
              obtain ⟨he, hput⟩ := htr.st a o hia ha ho
              have hsame : ∀ b, a ≤ b → b ≤ ops.size → ∀ t, (∀ c o', a ≤ c → c < b → ops[c]? = some o' → o'.dst ≠ some t) → (σs b).get (Pos.ofNat t) = (σs a).get (Pos.ofNat t) := fun b h1 h2 t h3 => by
                have := sig_fromI (Nat.le_refl _) htr hia (b - a) (by omega) t fun c o' g1 g2 g3 => h3 c o' g1 (by omega) g3
                rwa [show a + (b - a) = b by omega] at this
              refine ⟨ss a, free_evalP (hfr a o hia ho) he fun t htr' => ?_, fun d hd => ?_⟩
              · rw [← e4]
                refine (hsame _ (by omega) (Nat.le_refl _) t fun c o' g1 g2 g3 g4 => ?_).symm
                have := (hok.rd c a o o' t ho g3 g4 htr').2
                omega
              · obtain ⟨hd1, hd2⟩ := (putD_inv hput).2 d hd
                refine ⟨?_, hd1⟩
                have := sig_fromI (Nat.le_refl _) htr (k := a + 1) (by omega) (ops.size - (a + 1)) (by omega) d fun c o' g1 g2 g3 g4 => by
                  have := hok.one a c o o' d ho g3 hd g4
                  omega
                rw [show a + 1 + (ops.size - (a + 1)) = ops.size by omega, e4] at this
                rw [this]; exact hd2)
          have hext := hst2.ext hr
          exact ⟨_, frs, w2, m2, hs2, hst2, ⟨cc, tm2, _, rfl, hcx.ext hext, hT2, hn2, All2.mono (fun _ _ => IRel.ext hext) hk⟩, all2_ext hext hc, hb⟩
        · have hd : ops.toList.drop i = [] := List.drop_eq_nil_of_le (by simp; omega)
          rw [hd] at hrun
          simp only [pureS, Option.some.injEq, Prod.mk.injEq] at hrun
          obtain ⟨rfl, rfl⟩ := hrun
          cases tp with
          | nil hall => exact ⟨_, frs, w, m, .one (stepR_region_end (P := P) (b := mkF cc tm []) (a := ⟨tm, cc.ds⟩)), .refl hr, ⟨cc, tm, _, rfl, hcx, ht, hn, hk⟩, hc, hb⟩
          | cons hj ho hp tp' =>
            have := (Array.getElem?_eq_some_iff.1 ho).1
            exact absurd ((hS _).2 (by omega)) hj
theorem wait_goes (hr : MRel B m M w) (hD : ∀ B, Sound P B D) (hmix : P.follows .mixedOrders = true) {cs0 : List Frame} {bt : FuncId} {cx : SCx} {n : Nat} {σ : Tree SV} {k : List SItem} {id : Nat} {ops : Array Oper} {fr : Frame} (hf : FRel m (.mk cx n σ (.code (.region id ops true) :: k)) fr) {cs : List SFrame} {frs : List Frame} (hc : All2 (FRel m) cs frs) (hb : botF cx.fn cs = bt)
    (N : Nat) (L : List Nat) : Goes P B cs0 bt m M w (lone fr (frs ++ cs0) w) (waitR D P cx n σ k cs M ops N L) := by
  obtain ⟨cc, tm, todo0, rfl, hcx, ht, hn, hk0⟩ := hf
  cases hk0 with
  | cons h1 hk =>
    rename_i it todo
    cases it <;> simp only [IRel] at h1
    subst h1
    unfold waitR
    split
    next => trivial
    next hp =>
      split
      next => trivial
      next σ1 M1 hrun =>
        split
        next => trivial
        next hL0 =>
          split
          next => trivial
          next σ' M' hrun2 =>
            obtain ⟨hfw, hok, hNs, htail, hfl⟩ := lateP_ok hp
            have hs0 := stepR_region_draw (P := P) (b := mkF cc tm []) (a := ⟨tm, cc.ds⟩) (k := todo) (cs := frs ++ cs0) (w := w) (ops := ops) (id := id)
            rw [hmix] at hs0
            have hr1 : MRel B m M { w with drawn := w.drawn + 1 } := hr.drew rfl
            obtain ⟨m', w', tm', hs, hst, ht', hn'⟩ := pure_runsL (P := P) hmix hok hfl hNs htail (pureS_R hD hrun) hL0 (seqW_R hD hrun2) hr1 ht hn (schedule_topo hfw _) cc todo (frs ++ cs0)
            have hst' : Stepped B m M w m' M' w' := ⟨hst.rel, hst.same, hst.keep, hst.next, ⟨hst.below.os, hst.below.tape, hst.below.output, hst.below.size, hst.below.block⟩, hst.frame, hst.born, hst.under, hst.floor, hst.fixes, hst.news⟩
            have hext := hst'.ext hr
            exact ⟨_, frs, w', m', .head hs0 hs, hst', ⟨cc, tm', _, rfl, hcx.ext hext, ht', hn', All2.mono (fun _ _ => IRel.ext hext) hk⟩, all2_ext hext hc, hb⟩
theorem step_goesT (hr : MRel B m M w) (hI : Sound P B I) (hD : ∀ B, Sound P B D) (hmix : P.follows .mixedOrders = true) {cs0 : List Frame} {bt : FuncId} {f : SFrame} {fr : Frame} (hf : FRel m f fr) {cs : List SFrame} {frs : List Frame} (hc : All2 (FRel m) cs frs) (hb : botF f.fn cs = bt) :
    Goes P B cs0 bt m M w (lone fr (frs ++ cs0) w) (stepST I D P f cs M) := by
  have h := step_goes (I := I) (D := D) hr hI (hD B) hmix (cs0 := cs0) hf hc hb
  obtain ⟨cx, n, σ, k⟩ := f
  cases k with
  | nil => exact h
  | cons it k =>
    cases it with
    | code c =>
      cases c with
      | region id ops d =>
        cases d with
        | false => exact h
        | true =>
          have h : Goes P B cs0 bt m M w (lone fr (frs ++ cs0) w) (waitT D P cx n σ k cs M ops (cRegion D P cx n σ k cs M ops)) := by
            have h' : Goes P B cs0 bt m M w (lone fr (frs ++ cs0) w) (cRegion D P cx n σ k cs M ops) := h
            unfold waitT
            cases e : cRegion D P cx n σ k cs M ops with
            | bad => exact wait_goes hr hD hmix hf hc hb _ _
            | go f cs M => rw [e] at h'; exact h'
            | done v M => rw [e] at h'; exact h'
          show Goes P B cs0 bt m M w _ (Option.rec (Option.rec (waitT D P cx n σ k cs M ops (cRegion D P cx n σ k cs M ops)) (fun r => r) (tailT D P cx n σ k cs M ops)) (fun r => r) (lateT D P cx n σ k cs M ops))
          cases el : lateT D P cx n σ k cs M ops with
          | some r => exact late_goes hr (hD B) hmix hf hc hb el
          | none =>
            have ht := tail_goes (D := D) hr (hD B) hmix (cs0 := cs0) hf hc hb
            dsimp only
            cases e : tailT D P cx n σ k cs M ops with
            | none => exact h
            | some r => rw [tailT_eq e] at ht; exact ht
      | _ => exact h
    | late all i => exact lateI_goes hr hI (hD B) hf hc hb
    | _ => exact h
theorem run_goesT (hI : Sound P B I) (hD : ∀ B, Sound P B D) (hmix : P.follows .mixedOrders = true) {cs0 : List Frame} {bt : FuncId} : ∀ (n : Nat) {m : Map} {M : Mem} {w : World} {f : SFrame} {fr : Frame} {cs : List SFrame} {frs : List Frame}, MRel B m M w → FRel m f fr → All2 (FRel m) cs frs → botF f.fn cs = bt →
    Goes P B cs0 bt m M w (lone fr (frs ++ cs0) w) (runST I D P n f cs M)
  | 0, _, _, _, _, _, _, _, hr, hf, hc, hb => step_goesT hr hI hD hmix hf hc hb
  | n + 1, m, M, w, f, fr, cs, frs, hr, hf, hc, hb => by
    rw [runS_succT]
    have h := run_goesT hI hD hmix (cs0 := cs0) n hr hf hc hb
    split
    next => trivial
    next f' cs' M' he =>
      rw [he] at h
      obtain ⟨fr', frs', w', m', hs, hst, hf', hc', hb'⟩ := h
      have h2 := run_goesT hI hD hmix (cs0 := cs0) n hst.rel hf' hc' hb'
      cases hres : runST I D P n f' cs' M' with
      | bad => trivial
      | go f2 cs2 M2 =>
        rw [hres] at h2
        obtain ⟨fr2, frs2, w2, m2, hs2, hst2, hf2, hc2⟩ := h2
        exact ⟨fr2, frs2, w2, m2, hs.trans hs2, hst.trans hst2, hf2, hc2⟩
      | done v2 M2 =>
        rw [hres] at h2
        obtain ⟨fr2, w2, m2, x, hs2, hst2, hv2, hl2⟩ := h2
        exact ⟨fr2, w2, m2, x, hs.trans hs2, hst.trans hst2, hv2, hl2⟩
    next v M' he =>
      rw [he] at h
      exact h
end
section
variable {P : Program} {I D : Known}
noncomputable def startST (I D : Known) (P : Program) (k : Nat) (f : FuncId) (xs : List SV) (M : Mem) : Res :=
  match enterS P f xs with
  | some g => runST I D P k g [] M
  | none => .bad
noncomputable def levelST (I : Known) (P : Program) (k : Nat) (d : Nat) : Known :=
  Nat.rec I (fun _ D f xs M => match I f xs M with
    | some r => some r
    | none => match startST I D P k f xs M with
      | .done v M => some (v, M)
      | _ => none) d
theorem levelS_succT (I : Known) (k d : Nat) (f : FuncId) (xs : List SV) (M : Mem) : levelST I P k (d + 1) f xs M = match I f xs M with
    | some r => some r
    | none => match startST I (levelST I P k d) P k f xs M with
      | .done v M => some (v, M)
      | _ => none := rfl
theorem levelS_soundT {I : Known} (hI : ∀ B, Sound P B I) (hmix : P.follows .mixedOrders = true) (k : Nat) : ∀ d B, Sound P B (levelST I P k d)
  | 0, B => hI B
  | d + 1, B => by
    intro f xs M s M' h
    rw [levelS_succT] at h
    split at h
    · rename_i r hr
      simp only [Option.some.injEq] at h
      subst h
      exact hI B f xs M s M' hr
    · split at h
      · rename_i v M1 hs
        simp only [Option.some.injEq, Prod.mk.injEq] at h
        obtain ⟨rfl, rfl⟩ := h
        intro m w vs hr has c cs
        unfold startST at hs
        split at hs
        · rename_i g hg
          have hb : botF g.fn [] = f := by
            unfold enterS at hg
            split at hg
            · simp at hg
            · split at hg
              · simp only [Option.some.injEq] at hg; subst hg; rfl
              · simp at hg
          have := run_goesT (hI B) (levelS_soundT hI hmix k d) hmix (cs0 := c :: cs) k hr (enter_rel hg has) (All2.nil (R := FRel m)) hb
          rw [hs] at this
          obtain ⟨fr, w', m', x, h1, h2, h3, h4, _⟩ := this
          exact ⟨m', w', x, h2, h3, h1.trans (.one (step_leave_returned h4))⟩
        · simp at hs
      · simp at h
noncomputable def nextST (I D : Known) (P : Program) (k : Nat) (s' s : St) : Option St :=
  match runST I D P k s.f s.cs s.M with
  | .go f cs M => match Nat.beq cs.length s'.cs.length with
    | true => some ⟨cutF s'.f f, cutFs s'.cs cs, cutM s'.M M⟩
    | false => none
  | _ => none
theorem way_nextT (hI : ∀ B, Sound P B I) (hD : ∀ B, Sound P B D) (hmix : P.follows .mixedOrders = true) (k : Nat) {s s' : St} (h : nextST I D P k s' s = some s') : Way P s s' := by
  intro B cs0 bt w0 mach hr
  obtain ⟨m, w, fr, frs, hs, hm, hf, hc, hb, hw⟩ := hr
  have hg := run_goesT (hI B) hD hmix (cs0 := cs0) (bt := bt) k hm hf hc hb
  unfold nextST at h
  split at h
  · rename_i f cs M hrun
    rw [hrun] at hg
    obtain ⟨fr', frs', w', m', hs', hst, hf', hc', hb'⟩ := hg
    split at h
    · rename_i hl
      have hl' : cs.length = s'.cs.length := Nat.eq_of_beq_eq_true hl
      have h1 := cutF_rel s'.f hf'
      have h2 := cutFs_rel s'.cs hc' hl'
      have h3 := cutM_rel s'.M hst.rel
      have h' := Option.some.inj h
      refine ⟨m', w', fr', frs', hs.trans hs', ?_, ?_, ?_, ?_, hw.trans hst.below⟩
      · rw [← h']; exact h3
      · rw [← h']; exact h1.1
      · rw [← h']; exact h2.1
      · rw [← h']
        show botF (cutF s'.f f).fn (cutFs s'.cs cs) = bt
        rw [h2.2, h1.2]
        exact hb'
    · simp at h
  · simp at h
theorem call_way_memT (hI : ∀ B, Sound P B I) (hD : ∀ B, Sound P B D) (hmix : P.follows .mixedOrders = true) (k : Nat) {f : FuncId} {s : St} {M : Mem} (hg : (enterS P f []).isSome = true) (h : Way P (startM P f M) s) (he : endsTrue (runST I D P k s.f s.cs s.M) = true) {w : World} {m : Map} (hr : MRel w.heap.size m M w) :
    Calls P f #[] w fun e w' => e = .returned (.bool true) ∧ Below w.heap.size w w' := by
  intro cs0
  cases hgg : enterS P f [] with
  | none => rw [hgg] at hg; simp at hg
  | some g =>
    have hst : startM P f M = ⟨g, [], M⟩ := by unfold startM; rw [hgg]; rfl
    have hfr := enter_rel (m := m) (vs := #[]) hgg (concs_nil _)
    have r0 : Reach P w.heap.size cs0 f w (lone (Frame.enter P f #[] .normal) cs0 w) (startM P f M) := by
      rw [hst]
      exact ⟨m, w, _, [], .refl _ _, hr, hfr, .nil, enterS_fn hgg, Below.refl _ _⟩
    obtain ⟨m, w1, fr, frs, hs, hm, hf, hc, hb, hw⟩ := h _ _ _ _ _ r0
    have hrun := run_goesT (hI _) hD hmix (cs0 := cs0) (bt := f) k hm hf hc hb
    obtain ⟨M', hM⟩ := endsTrue_eq he
    rw [hM] at hrun
    obtain ⟨fr', w', m', x, hs', hst', hv, hl, hfn⟩ := hrun
    have hx : x = .bool true := by simp [conc] at hv; exact hv.symm
    subst hx
    exact ⟨.returned (.bool true), w', fr', ⟨rfl, hw.trans hst'.below⟩, hs.trans hs', hfn, hl⟩
end
end Go.Ev
