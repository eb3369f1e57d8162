/- A part of the small machine. -/
import Derived.Test.YtjddbfpinjjkkaaGreatDoorEvW25
set_option linter.unusedVariables false
namespace Go.Ev
open Go.RowKit
variable {P : Program} {I D : Known}
section
variable {B : Nat} {m : Map} {M : Mem} {w : World}
def z81.fn : z81 → FuncId
 | .mk cx _ _ _ => cx.fn
def zcn (fn : FuncId) : List z81 → FuncId
 | [] => fn
 | c :: cs => zcn c.fn cs
def zd3 (P : Program) (B : Nat) (cs0 : List Frame) (bt : FuncId) (m : Map) (M : Mem) (w : World) (mach : Machine) : Res → Prop
 | .bad => True
 | .go f cs M' => ∃ fr frs w' m', Steps P mach (lone fr (frs ++ cs0) w') ∧ z82 B m M w m' M' w' ∧ zaj m' f fr ∧ z8p (zaj m') cs frs ∧ zcn f.fn cs = bt
 | .done v M' => ∃ fr w' m' x, Steps P mach (lone fr cs0 w') ∧ z82 B m M w m' M' w' ∧ conc m' v = some x ∧ fr.leaving P w' (.returned x) ∧ fr.fn = bt
theorem z8w {m m' : Map} (h : Ext m m') {cs : List z81} {frs : List Frame} (hc : z8p (zaj m) cs frs) : z8p (zaj m') cs frs := z8p.mono (fun _ _ => zaj.ext h) hc
def zmb (tm : Array Value) : ResultVar → Sem Value
 | .tmp t => Pure.pure (tm.getD t undef)
 | .cell a t => do loadVar t (← asAddr (tm.getD a undef))
theorem zna (F : Func) (tm : Array Value) : results F tm = (do let vs ← F.results.mapM (zmb tm); Pure.pure (if h : vs.size = 1 then vs[0] else .tuple vs)) := by
 unfold results
 congr 1
theorem zil (hr : MRel B m M w) {σ : Tree SV} {tm : Array Value} (ht : za6 m σ tm) : ∀ {l : List ResultVar} {r : List SV}, zj1 M P σ l = some r →
  ∃ vs, concs m r = some vs ∧ (l.mapM (zmb tm)).run P w = .ok vs w
 | [], r, h => by
  simp only [zj1, Option.some.injEq] at h; subst h
  exact ⟨[], concs_nil m, rfl⟩
 | .tmp t :: l, r, h => by
  simp only [zj1] at h
  split at h
  ·simp at h
  ·rename_i s hs
   split at h
   ·simp at h
   ·rename_i k hk
    simp only [Option.some.injEq] at h; subst h
    obtain ⟨vs, hvs, hrun⟩ := zil hr ht hk
    obtain ⟨v, h1, h2⟩ := ht _ _ hs
    refine ⟨v :: vs, concs_cons h2 hvs, ?_⟩
    have hg : tm.getD t undef = v := by simp [Array.getD_eq_getD_getElem?, h1]
    rw [List.mapM_cons]
    simp only [zmb, Sem.run_bind, hg, Sem.run_pure, Result.andThen_ok, hrun]
 | .cell a t :: l, r, h => by
  simp only [zj1] at h
  split at h
  ·simp at h
  ·rename_i s hs
   split at h
   ·rename_i s' M' hl
    split at h
    ·simp at h
    ·rename_i k hk
     simp only [Option.some.injEq] at h; subst h
     obtain ⟨vs, hvs, hrun⟩ := zil hr ht hk
     obtain ⟨v, h1, h2⟩ := ht _ _ hs
     have hg : tm.getD a undef = v := by simp [Array.getD_eq_getD_getElem?, h1]
     have hd := zhs (P := P) hr (t := t) h2
     rw [hl] at hd
     obtain ⟨x, m', w', hx1, hx2, hx3⟩ := hd
     have hptr : ∃ b off, s = .ptr b off := by
      unfold zel at hl
      split at hl
      ·exact ⟨_, _, rfl⟩
      ·simp at hl
     obtain ⟨b, off, rfl⟩ := hptr
     obtain ⟨p, hp, rfl⟩ := z91 h2
     have key : ∃ u, (loadVar t ⟨p.block, off + p.shift, none⟩).run P w = .ok u w ∧ conc m s' = some u := by
      unfold zel at hl
      simp only at hl
      split at hl
      ·rename_i cells hc
       split at hl
       ·rename_i hz
        split at hl
        ·rename_i y hy
         simp only [Out.val.injEq] at hl
         obtain ⟨rfl, rfl⟩ := hl
         rw [zhb] at hy
         obtain ⟨u, hu, hcell⟩ := znt hr hc hp hy
         exact ⟨u, by simp [loadVar, Sem.run_bind, zc0 hz, hcell], hu⟩
        ·simp at hl
       ·rename_i n hz
        split at hl
        ·rename_i hn
         simp only [Out.val.injEq] at hl
         obtain ⟨rfl, rfl⟩ := hl
         rw [z93] at hn
         have hn' : off + n ≤ cells.length := by simpa using hn
         obtain ⟨us, hus, hul, _, hur⟩ := zcg (P := P) hr hc hp hn'
         refine ⟨.agg us.toArray, by simp [loadVar, Sem.run_bind, (z9v hz w).1, (z9v hz w).2, hur], ?_⟩
         rw [zck, zc6]; simp [conc, hus]
        ·simp at hl
       ·simp at hl
      ·simp at hl
     obtain ⟨u, hu1, hu2⟩ := key
     refine ⟨u :: vs, concs_cons hu2 hvs, ?_⟩
     rw [List.mapM_cons]
     have hga : (asAddr (tm.getD a undef)).run P w = .ok ⟨p.block, off + p.shift, none⟩ w := by rw [hg]; rfl
     simp only [zmb, Sem.run_bind, hga, Sem.run_pure, Result.andThen_ok, hu1, hrun]
   ·simp at h
theorem zn7 {l : List SV} {vs : List Value} (h : concs m l = some vs) : conc m (zih l) = some (if h : vs.toArray.size = 1 then vs.toArray[0] else .tuple vs.toArray) := by
 unfold zih
 split
 ·obtain ⟨v, h1, rfl⟩ := zad h
  simpa using h1
 ·rename_i hne
  have hl := z86 h
  have : ¬ vs.toArray.size = 1 := by
   intro e
   have e' : vs.length = 1 := by simpa using e
   rw [e'] at hl
   match l, hl with
   | [s], _ => exact hne s rfl
   | [], hl => simp at hl
   | _ :: _ :: _, hl => simp at hl
  rw [dif_neg this]
  simp [conc, h]
theorem zl2 (hr : MRel B m M w) {σ : Tree SV} {tm : Array Value} (ht : za6 m σ tm) {F : Func} {l : List SV} (h : zj1 M P σ F.results.toList = some l) :
  ∃ v, (results F tm).run P w = .ok v w ∧ conc m (zih l) = some v := by
 obtain ⟨vs, hvs, hrun⟩ := zil hr ht h
 refine ⟨_, ?_, zn7 hvs⟩
 rw [zna, ← Array.toArray_toList (xs := F.results), List.mapM_toArray]
 simp only [map_eq_pure_bind, Sem.run_bind, Sem.run_pure]
 rw [hrun]
 rfl
theorem zd3.after {cs0 : List Frame} {bt : FuncId} {m1 : Map} {M1 : Mem} {w1 : World} (hs : z82 B m M w m1 M1 w1) {mach : Machine} {r : Res} (h : zd3 P B cs0 bt m1 M1 w1 mach r) : zd3 P B cs0 bt m M w mach r := by
 cases r with
 | bad => trivial
 | go f cs M' =>
  obtain ⟨fr, frs, w', m', h1, h2, h3⟩ := h
  exact ⟨fr, frs, w', m', h1, hs.trans h2, h3⟩
 | done v M' =>
  obtain ⟨fr, w', m', x, h1, h2, h3⟩ := h
  exact ⟨fr, w', m', x, h1, hs.trans h2, h3⟩
theorem zea (c : Cx) (tm tm' : Array Value) (all : Array Oper) (i : Nat) (rest : List Nat) (todo : List Item) (o : Oper) (ho : all[i]? = some o) (v : Value) (hp : ∀ ds, Act.put ⟨tm, ds⟩ o.dst v = ⟨tm', ds⟩) :
  (mkF c tm (.inRegion all (i :: rest) :: todo)).finish v = mkF c tm' (.inRegion all rest :: todo) := by
 have := Frame.finish_atR (mkF c tm []) ⟨tm, c.ds⟩ all i rest todo v
 rw [ho, Option.bind_some, hp] at this
 exact this
theorem zjk {all : Array Oper} {i : Nat} {o : Oper} (ho : all[i]? = some o) (hbef : ∀ j, i < j → j < all.size → Before all i j) {S is : List Nat} (htopo : Topo all S is) (hS : ∀ k, k ∈ S ↔ k < i) (hcl : ∀ k ∈ S, ∀ l, Before all l k → l ∈ S) :
  ∃ is', is = i :: is' ∧ Topo all (i :: S) is' ∧ (∀ k, k ∈ i :: S ↔ k < i + 1) ∧ ∀ k ∈ i :: S, ∀ l, Before all l k → l ∈ i :: S := by
 have hlt := (Array.getElem?_eq_some_iff.1 ho).1
 cases htopo with
 | nil hall => exact absurd ((hS i).1 (hall i hlt)) (by omega)
 | cons hj hoj hp tp =>
  rename_i j rest o'
  have hjs := (Array.getElem?_eq_some_iff.1 hoj).1
  have hji : j = i := by
   apply Classical.byContradiction
   intro e
   have h1 : ¬ j < i := fun h => hj ((hS j).2 h)
   have h3 := z8a hoj hp hcl (hbef j (by omega) hjs)
   exact absurd ((hS i).1 h3) (by omega)
  subst hji
  refine ⟨rest, rfl, tp, fun k => by rw [List.mem_cons, hS k]; omega, fun k hk l hl => ?_⟩
  rcases List.mem_cons.1 hk with rfl | hk
  ·exact List.mem_cons_of_mem _ (z8a hoj hp hcl hl)
  ·exact List.mem_cons_of_mem _ (hcl k hk l hl)
theorem zep (hr : MRel B m M w) {cs0 : List Frame} {bt fn0 : FuncId} {cs : List z81} {frs : List Frame} {s : SV} {v : Value} {mach : Machine}
  (hmach : ∀ c fs, frs = c :: fs → Steps P mach (lone (c.finish v) (fs ++ cs0) w)) (hv : conc m s = some v) (hc : z8p (zaj m) cs frs) (hb : zcn fn0 cs = bt) :
  zd3 P B cs0 bt m M w mach (ze5 s cs M) := by
 unfold ze5
 split
 next cx n σ all o r k cs =>
  split
  next σ' hσ =>
   cases hc with
   | cons hf hcs =>
    rename_i c l
    obtain ⟨cc, tm, todo, rfl, hcx, ht, hn, hk⟩ := hf
    cases hk with
    | cons hi hk =>
     rename_i it todo
     cases it <;> simp only [zak] at hi
     obtain ⟨rfl, i, hdrop, his⟩ := hi
     obtain ⟨tm', hp, ht', hn'⟩ := zb1 hσ ht hn hv
     have hlt : i < all.size := by
      apply Classical.byContradiction
      intro hge
      rw [List.drop_eq_nil_of_le (by simp; omega)] at hdrop
      simp at hdrop
     have ho : all[i]? = some o := by
      have : (all.toList.drop i)[0]? = some o := by rw [← hdrop]; rfl
      simpa using this
     have hr' : r = all.toList.drop (i + 1) := by
      have := congrArg List.tail hdrop
      simpa using this
     have hrange : (List.range all.size).drop i = i :: (List.range all.size).drop (i + 1) := by
      rw [List.drop_eq_getElem_cons (by simpa using hlt)]
      simp
     subst his
     rw [hrange] at *
     have hstep := hmach _ _ rfl
     rw [zea cc tm tm' all i _ todo o ho v hp] at hstep
     exact ⟨_, l, w, m, hstep, .refl hr, ⟨cc, tm', _, rfl, hcx, ht', hn', .cons ⟨rfl, i + 1, hr', rfl⟩ hk⟩, hcs, hb⟩
  next => trivial
 next cx n σ l k cs =>
  cases hc with
  | cons hf hcs =>
   rename_i c fs
   obtain ⟨cc, tm, todo, rfl, hcx, ht, hn, hk⟩ := hf
   cases hk with
   | cons hi hk =>
    rename_i it todo
    cases it <;> simp only [zak] at hi
    obtain ⟨p, hp, rfl⟩ := hi
    have hstep := hmach _ _ rfl
    rw [show (mkF cc tm (.inRangeFunc p.block :: todo)).finish v = mkF cc tm (.endRangeFunc p.block :: todo) from finish_atR_inRangeFunc (b := mkF cc tm []) (a := ⟨tm, cc.ds⟩) (k := todo) p.block v] at hstep
    exact ⟨_, fs, w, m, hstep, .refl hr, ⟨cc, tm, _, rfl, hcx, ht, hn, .cons ⟨p, hp, rfl⟩ hk⟩, hcs, hb⟩
 next cx n σ all i k cs =>
  split
  next o hlate =>
   split
   next σ' hσ =>
    obtain ⟨ho, hbef⟩ := zft hlate
    cases hc with
    | cons hf hcs =>
     rename_i c fs
     obtain ⟨cc, tm, todo, rfl, hcx, ht, hn, hk⟩ := hf
     cases hk with
     | cons hi hk =>
      rename_i it todo
      cases it <;> simp only [zak] at hi
      obtain ⟨rfl, hok, S, htopo, hS, hcl⟩ := hi
      obtain ⟨tm', hp, ht', hn'⟩ := zb1 hσ ht hn hv
      obtain ⟨is', rfl, htopo', hS', hcl'⟩ := zjk ho hbef htopo hS hcl
      have hstep := hmach _ _ rfl
      rw [zea cc tm tm' all i is' todo o ho v hp] at hstep
      exact ⟨_, fs, w, m, hstep, .refl hr, ⟨cc, tm', _, rfl, hcx, ht', hn', .cons ⟨rfl, hok, i :: S, htopo', hS', hcl'⟩ hk⟩, hcs, hb⟩
   next => trivial
  next => trivial
 next => trivial
theorem zko (hr : MRel B m M w) {cs0 : List Frame} {bt : FuncId} {fr : Frame} {cs : List z81} {frs : List Frame} {s : SV} {v : Value} {mach : Machine} (hmach : Steps P mach (lone fr (frs ++ cs0) w)) (hl : fr.leaving P w (.returned v)) (hv : conc m s = some v) (hc : z8p (zaj m) cs frs) (hb : zcn fr.fn cs = bt) :
  zd3 P B cs0 bt m M w mach (zfn s cs M) := by
 unfold zfn
 split
 next =>
  cases hc
  exact ⟨fr, w, m, v, hmach, .refl hr, hv, hl, hb⟩
 next c cs =>
  refine zep hr (fn0 := fr.fn) (fun c' fs he => ?_) hv hc hb
  subst he
  exact hmach.trans (.one (step_leave_returned hl))
theorem zkw {L : LoopS} {R : Loop} (h : zf8 m L R) (st : LoopState) (pe : Option Code) : zf8 m { L with st := st, pend := pe } { R with state := st, pending := pe } :=
 ⟨rfl, rfl, h.2.2⟩
theorem zds (hr : MRel B m M w) {cs0 : List Frame} {bt fn0 : FuncId} {l : Pos} {p : Pl} (hp : m l = some p) {jump : Option Code} {cs : List z81} {frs : List Frame} {mach : Machine}
  (hstep : ∀ c fs v w', frs = c :: fs → (Instr.endRound p.block jump).run P w = .ok v w' → step P mach = .next (lone (c.finish v) (fs ++ cs0) w')) (hc : z8p (zaj m) cs frs) (hb : zcn fn0 cs = bt) :
  zd3 P B cs0 bt m M w mach (roundEnd l jump cs M) := by
 unfold roundEnd
 split
 next => trivial
 next L hL =>
  obtain ⟨R, hR, hrel⟩ := ze9 hr (zap hL).1 hp
  have hst := zib hr hL hp (zkw hrel (if jump.isNone then .ready else .done) jump)
  have hend := run_endRound (P := P) jump hR
  exact (zep hst.rel (fn0 := fn0) (fun c fs he => .one (hstep c fs _ _ he hend)) rfl hc hb).after hst
theorem zmc (hr : MRel B m M w) {cs0 : List Frame} {bt : FuncId} {cx : SCx} {cc : Cx} (hcx : zgv m cx cc) {σ : Tree SV} {tm : Array Value} (ht : za6 m σ tm) {todo : List Item} {cs : List z81} {frs : List Frame} {mach : Machine} {jump : Option Code}
  (hmach : cc.rd = none → Steps P mach (lone { mkF cc tm todo with mode := .returning } (frs ++ cs0) w))
  (hround : ∀ l c fs v w', cc.rd = some l → frs = c :: fs → (Instr.endRound l jump).run P w = .ok v w' → step P mach = .next (lone (c.finish v) (fs ++ cs0) w'))
  (hc : z8p (zaj m) cs frs) (hb : zcn cx.fn cs = bt) :
  zd3 P B cs0 bt m M w mach (zq3 P cx jump σ cs M) := by
 have hrd := hcx.rd
 unfold zq3
 split
 next l hl =>
  rw [hl] at hrd
  cases hcr : cc.rd with
  | none => rw [hcr] at hrd; exact hrd.elim
  | some r =>
   rw [hcr] at hrd
   obtain ⟨p, hp, rfl⟩ := hrd
   exact zds hr (fn0 := cx.fn) hp (fun c fs v w' he hrun => hround _ c fs v w' hcr he hrun) hc hb
 next hl =>
  rw [hl] at hrd
  cases hcr : cc.rd with
  | some r => rw [hcr] at hrd; exact hrd.elim
  | none =>
   split
   next => trivial
   next F hF =>
    split
    next => trivial
    next M1 hM1 =>
     obtain ⟨w1, hs1, hst⟩ := zhl hr hM1 hcx.ds { mkF cc tm todo with mode := .returning } (frs ++ cs0) rfl rfl
     split
     next => trivial
     next l hl =>
      obtain ⟨v, hrun, hv⟩ := zl2 hst.rel ht hl
      refine (zko hst.rel (fr := { mkF cc tm todo with mode := .returning, defers := [] }) ((hmach hcr).trans hs1) ⟨rfl, rfl, rfl, F, ?_, hrun⟩ hv hc ?_).after hst
      ·show P.funcs[cc.fn]? = some F
       rw [hcx.fn]; exact hF
      ·show zcn cc.fn cs = bt
       rw [hcx.fn]; exact hb
theorem zgb {tm : Array Value} : ∀ {as : List SV} {vs : List Value} {i : Nat} {σ : Tree SV}, concs m as = some vs → (∀ j v, vs[j]? = some v → tm[i + j]? = some v) → za6 m σ tm → za6 m (zga i σ as) tm
 | [], vs, i, σ, h, _, ht => ht
 | s :: as, vs, i, σ, h, hv, ht => by
  obtain ⟨v, r, h1, h2, rfl⟩ := z85 h
  simp only [zga]
  refine zgb h2 (fun j u hj => ?_) ?_
  ·have := hv (j + 1) u (by simpa using hj)
   rwa [show i + (j + 1) = Nat.succ i + j by omega] at this
  ·intro t x hx
   by_cases hti : i = t
   ·subst hti
    rw [Tree.get_put_same] at hx
    cases hx
    exact ⟨v, by simpa using hv 0 v rfl, h1⟩
   ·rw [Tree.get_put_other _ _ (fun e => hti (Pos.ofNat_inj e))] at hx
    exact ht t x hx
theorem za2 {f : FuncId} {as : List SV} {vs : Array Value} {g : z81} (h : enterS P f as = some g) (hv : concs m as = some vs.toList) : zaj m g (Frame.enter P f vs .normal) := by
 unfold enterS at h
 split at h
 ·simp at h
 ·rename_i F hF
  split at h
  ·rename_i c hb hl
   simp only [Option.some.injEq] at h
   subst h
   have hl' := Nat.le_of_ble_eq_true hl
   rw [z93] at hl'
   have hlen := z86 hv
   simp only [Array.length_toList] at hlen
   refine ⟨⟨f, [], none⟩, vs ++ Array.replicate (F.ntmps - vs.size) undef, [.code c], by simp [Frame.enter, mkF, hF, hb], ⟨rfl, .nil, trivial⟩, ?_, by simp; omega, .cons rfl .nil⟩
   refine zgb hv (fun j v hj => ?_) (fun t s hs => by rw [Tree.get_leaf] at hs; simp at hs)
   have hj' := (List.getElem?_eq_some_iff.1 hj).1
   simp only [Array.length_toList] at hj'
   rw [Nat.zero_add, Array.getElem?_append_left hj']
   simpa using hj
  ·simp at h
theorem znb (hr : MRel B m M w) {cs0 : List Frame} {bt : FuncId} {l : Pos} {as : List SV} {p : Pl} {R : Loop} {vs : Array Value} (hp : m l = some p) (hR : w.heap[p.block]? = some (.loop R)) (has : concs m as = some vs.toList) {c : z81} {cs : List z81} {fr : Frame} {frs : List Frame} {mach : Machine}
  (hmach : Steps P mach (lone (Frame.round p.block R.fn ((R.params.zip vs).foldl (fun tmps (t, a) => tmps.setIfInBounds t a) R.tmps) R.assign R.body .normal) (fr :: (frs ++ cs0)) w))
  (hf : zaj m c fr) (hc : z8p (zaj m) cs frs) (hb : zcn c.fn cs = bt) : zd3 P B cs0 bt m M w mach (zhh l as c cs M) := by
 unfold zhh
 split
 next => trivial
 next L hL =>
  split
  next => trivial
  next σ hσ =>
   obtain ⟨R', hR', h1, h2, h3, h4, h5, h6, h7, h8, q, hq1, hq2⟩ := ze9 hr hL hp
   rw [hR] at hR'
   cases hR'
   rw [← h6] at hσ
   obtain ⟨g1, g2⟩ := zjx hσ has h4 h5
   have hfold : (R.params.zip vs).foldl (fun tmps (t, a) => tmps.setIfInBounds t a) R.tmps = (R.params.toList.zip vs.toList).foldl (fun tmps (t, a) => tmps.setIfInBounds t a) R.tmps := by
    rw [← Array.foldl_toList, Array.toList_zip]
   rw [hfold] at hmach
   exact ⟨_, fr :: frs, w, m, hmach, .refl hr, ⟨⟨R.fn, [], some p.block⟩, _, _, rfl, ⟨h3, .nil, p, hp, rfl⟩, g1, g2, .cons h7.symm (.cons trivial (.cons h8.symm .nil))⟩, .cons hf hc, hb⟩
theorem zdh {f : FuncId} {as : List SV} {g : z81} (h : enterS P f as = some g) : g.fn = f := by
 unfold enterS at h
 split at h
 ·simp at h
 ·split at h
  ·simp only [Option.some.injEq] at h; subst h; rfl
  ·simp at h
theorem zm7 (hr : MRel B m M w) (hI : Sound P B I) {cs0 : List Frame} {bt : FuncId} {cx : SCx} {cc : Cx} (hcx : zgv m cx cc) {n : Nat} {σ : Tree SV} {tm : Array Value} (ht : za6 m σ tm) (hn : tm.size = n) {all : Array Oper} {o : Oper} {a b : SItem} {i : Nat} {rest : List Nat} (ho : all[i]? = some o)
  (hia : ∀ m, zak m a (.inRegion all (i :: rest))) (hib : ∀ m, zak m b (.inRegion all rest)) {k : List SItem} {todo : List Item} (hk : z8p (zak m) k todo) {cs : List z81} {frs : List Frame} (hc : z8p (zaj m) cs frs) (hb : zcn cx.fn cs = bt) :
  zd3 P B cs0 bt m M w (lone (mkF cc tm (.inRegion all (i :: rest) :: todo)) (frs ++ cs0) w) (opG I P cx n σ all o a b k cs M) := by
 have hfin : ∀ (tm tm' : Array Value) (v : Value), (∀ ds, Act.put ⟨tm, ds⟩ o.dst v = ⟨tm', ds⟩) → (mkF cc tm (.inRegion all (i :: rest) :: todo)).finish v = mkF cc tm' (.inRegion all rest :: todo) :=
  fun tm tm' v hp => zea cc tm tm' all i rest todo o ho v hp
 have hkx : ∀ {m'}, Ext m m' → z8p (zak m') k todo := fun hm => z8p.mono (fun _ _ => zak.ext hm) hk
 unfold opG
 split
 next => trivial
 next hw =>
  have hw' := z95 hw ht
  split
  next σ' hσ =>
   obtain ⟨tm', hp, ht', hn'⟩ := zb1 hσ ht hn (v := undef) (by simp [conc, concs, undef])
   have hs := stepR_op_skip (P := P) (b := mkF cc tm []) (a := ⟨tm, cc.ds⟩) (k := todo) (cs := frs ++ cs0) (w := w) (ops := all) (i := i) (rest := rest) (by simp [ho, hw'])
   rw [ho, Option.bind_some, hp] at hs
   exact ⟨mkF cc tm' (.inRegion all rest :: todo), frs, w, m, .one hs, .refl hr, ⟨cc, tm', _, rfl, hcx, ht', hn', .cons (hib _) hk⟩, hc, hb⟩
  next => trivial
 next hw =>
  have hw' := z95 hw ht
  have hg := stepGR_op (P := P) (b := mkF cc tm []) (a := ⟨tm, cc.ds⟩) (k := todo) (cs := frs ++ cs0) (w := w) (ops := all) (i := i) (rest := rest) ho hw'
  have hd := zaf (P := P) hr ht o
  split
  next => trivial
  next s M' he =>
   rw [Oper.semAt_eq _ _ _ (za7 (P := P) (M := M) (σ := σ) (by rw [he]; simp)), z96] at hg
   rw [he] at hd
   obtain ⟨x, m', w', hrun, hx, hst⟩ := hd
   split
   next σ' hσ =>
    have hext := hst.ext hr
    have hv : ∃ v, (x = .value v ∨ x = .skip ∧ v = undef) ∧ conc m' s = some v := by
     cases x with
     | value v => exact ⟨v, .inl rfl, hx⟩
     | skip => exact ⟨undef, .inr ⟨rfl, rfl⟩, by have : s = .tuple [] := hx; subst this; simp [conc, concs, undef]⟩
     | _ => exact hx.elim
    obtain ⟨v, hxv, hv⟩ := hv
    obtain ⟨tm', hp, ht', hn'⟩ := zb1 hσ (ht.ext hext) hn hv
    have hs : step P (lone (mkF cc tm (.inRegion all (i :: rest) :: todo)) (frs ++ cs0) w) = .next (lone (mkF cc tm' (.inRegion all rest :: todo)) (frs ++ cs0) w') := by
     refine step_lone_go ?_
     rw [← hfin tm tm' v hp]
     rcases hxv with rfl | ⟨rfl, rfl⟩
     ·exact (congrArg GStep.bare hg).trans (by simp [stepG.apply, hrun]; rfl)
     ·exact (congrArg GStep.bare hg).trans (by simp [stepG.apply, hrun]; rfl)
    exact ⟨_, frs, w', m', .one hs, hst, ⟨cc, tm', _, rfl, hcx.ext hext, ht', hn', .cons (hib _) (hkx hext)⟩, z8w hext hc, hb⟩
   next => trivial
  next f as M' he =>
   rw [Oper.semAt_eq _ _ _ (za7 (P := P) (M := M) (σ := σ) (by rw [he]; simp)), z96] at hg
   rw [he] at hd
   obtain ⟨vs, m', w', hrun, has, hst⟩ := hd
   have hext := hst.ext hr
   have henter : step P (lone (mkF cc tm (.inRegion all (i :: rest) :: todo)) (frs ++ cs0) w) = .next (lone (Frame.enter P f vs .normal) (mkF cc tm (.inRegion all (i :: rest) :: todo) :: (frs ++ cs0)) w') := by
    refine step_lone_go ?_
    exact (congrArg GStep.bare hg).trans (by simp [stepG.apply, hrun, Frame.atR, mkF])
   split
   next s M'' hi =>
    split
    next σ' hσ =>
     obtain ⟨m'', w'', v, hst', hv, hsteps⟩ := hI f as M' s M'' hi m' w' vs hst.rel has (mkF cc tm (.inRegion all (i :: rest) :: todo)) (frs ++ cs0)
     have hext' := hst'.ext hst.rel
     obtain ⟨tm', hp, ht', hn'⟩ := zb1 hσ ((ht.ext hext).ext hext') hn hv
     rw [hfin tm tm' v hp] at hsteps
     exact ⟨_, frs, w'', m'', .head henter hsteps, hst.trans hst', ⟨cc, tm', _, rfl, (hcx.ext hext).ext hext', ht', hn', .cons (hib _) (z8p.mono (fun _ _ => zak.ext hext') (hkx hext))⟩, z8w hext' (z8w hext hc), hb⟩
    next => trivial
   next hi =>
    split
    next g hg' =>
     exact ⟨_, mkF cc tm (.inRegion all (i :: rest) :: todo) :: frs, w', m', .one henter, hst, za2 hg' has, .cons ⟨cc, tm, _, rfl, hcx.ext hext, ht.ext hext, hn, .cons (hia _) (hkx hext)⟩ (z8w hext hc), by rw [← hb, zdh hg']; rfl⟩
    next => trivial
  next l as M' he =>
   rw [Oper.semAt_eq _ _ _ (za7 (P := P) (M := M) (σ := σ) (by rw [he]; simp)), z96] at hg
   rw [he] at hd
   obtain ⟨p, R, vs, m', w', hp, hR', hvs, hrun, has, hst⟩ := hd
   have hext := hst.ext hr
   have henter : step P (lone (mkF cc tm (.inRegion all (i :: rest) :: todo)) (frs ++ cs0) w) = .next (lone (Frame.round p.block R.fn ((R.params.zip vs).foldl (fun tmps (t, a) => tmps.setIfInBounds t a) R.tmps) R.assign R.body .normal) (mkF cc tm (.inRegion all (i :: rest) :: todo) :: (frs ++ cs0)) w') := by
    refine step_lone_go ?_
    exact (congrArg GStep.bare hg).trans (by simp [stepG.apply, hrun, Frame.atR, mkF])
   exact (znb hst.rel hp hR' has (.one henter) (c := .mk cx n σ (a :: k)) ⟨cc, tm, _, rfl, hcx.ext hext, ht.ext hext, hn, .cons (hia _) (hkx hext)⟩ (z8w hext hc) hb).after hst
theorem zsf (hr : MRel B m M w) (hI : Sound P B I) {cs0 : List Frame} {bt : FuncId} {cx : SCx} {cc : Cx} (hcx : zgv m cx cc) {n : Nat} {σ : Tree SV} {tm : Array Value} (ht : za6 m σ tm) (hn : tm.size = n) {all : Array Oper} {o : Oper} {r : List Oper} {i : Nat} (hdrop : o :: r = all.toList.drop i)
  {k : List SItem} {todo : List Item} (hk : z8p (zak m) k todo) {cs : List z81} {frs : List Frame} (hc : z8p (zaj m) cs frs) (hb : zcn cx.fn cs = bt) :
  zd3 P B cs0 bt m M w (lone (mkF cc tm (.inRegion all ((List.range all.size).drop i) :: todo)) (frs ++ cs0) w) (opS I P cx n σ all o r k cs M) := by
 have hlt : i < all.size := by
  apply Classical.byContradiction
  intro hge
  rw [List.drop_eq_nil_of_le (by simp; omega)] at hdrop
  simp at hdrop
 have ho : all[i]? = some o := by
  have : (all.toList.drop i)[0]? = some o := by rw [← hdrop]; rfl
  simpa using this
 have hr' : r = all.toList.drop (i + 1) := by
  have := congrArg List.tail hdrop
  simpa using this
 have hrange : (List.range all.size).drop i = i :: (List.range all.size).drop (i + 1) := by
  rw [List.drop_eq_getElem_cons (by simpa using hlt)]
  simp
 rw [hrange]
 rw [zg4, zr3]
 exact zm7 (a := .ops all (o :: r)) (b := .ops all r) hr hI hcx ht hn ho (fun m => ⟨rfl, i, hdrop, hrange.symm⟩) (fun m => ⟨rfl, i + 1, hr', rfl⟩) hk hc hb
theorem zmq (hr : MRel B m M w) {cs0 : List Frame} {bt : FuncId} {cx : SCx} {cc : Cx} (hcx : zgv m cx cc) {n : Nat} {σ : Tree SV} {tm : Array Value} (ht : za6 m σ tm) (hn : tm.size = n)
  {k : List SItem} {todo : List Item} (hk : z8p (zak m) k todo) {cs : List z81} {frs : List Frame} (hc : z8p (zaj m) cs frs) (hb : zcn cx.fn cs = bt) :
  zd3 P B cs0 bt m M w (lone (mkF cc tm (.beginRound :: todo)) (frs ++ cs0) w) (zfc cx n σ k cs M) := by
 have hrd := hcx.rd
 unfold zfc
 split
 next => trivial
 next l hl =>
  rw [hl] at hrd
  cases hcr : cc.rd with
  | none => rw [hcr] at hrd; exact hrd.elim
  | some r =>
   rw [hcr] at hrd
   obtain ⟨p, hp, rfl⟩ := hrd
   split
   next => trivial
   next L hL =>
    split
    next hst =>
     obtain ⟨R, hR, hrel⟩ := ze9 hr (zap hL).1 hp
     have hready : R.state = .ready := hrel.1.trans hst
     have hs := stepR_beginRound (P := P) (b := mkF cc tm []) (a := ⟨tm, cc.ds⟩) (k := todo) (cs := frs ++ cs0) hcr (run_beginRound (P := P) hR hready)
     have hset := zib hr hL hp (L' := { L with st := .busy }) (R' := { R with state := .busy }) ⟨rfl, hrel.2⟩
     exact ⟨_, frs, _, m, .one hs, hset, ⟨cc, tm, _, rfl, hcx, ht, hn, hk⟩, hc, hb⟩
    next => trivial
theorem zqg (hr : MRel B m M w) {cs0 : List Frame} {bt : FuncId} {cx : SCx} {cc : Cx} (hcx : zgv m cx cc) {n : Nat} {σ : Tree SV} {tm : Array Value} (ht : za6 m σ tm) (hn : tm.size = n) {l : Pos} {p : Pl} (hp : m l = some p)
  {k : List SItem} {todo : List Item} (hk : z8p (zak m) k todo) {cs : List z81} {frs : List Frame} (hc : z8p (zaj m) cs frs) (hb : zcn cx.fn cs = bt) :
  zd3 P B cs0 bt m M w (lone (mkF cc tm (.endRangeFunc p.block :: todo)) (frs ++ cs0) w) (zs3 cx n σ l k cs M) := by
 unfold zs3
 split
 next => trivial
 next L hL =>
  obtain ⟨R, hR, hrel⟩ := ze9 hr (zap hL).1 hp
  split
  next => trivial
  next hst =>
   have hne : R.state ≠ .busy := fun e => hst (hrel.1.symm.trans e)
   have hs := stepR_endRangeFunc (P := P) (b := mkF cc tm []) (a := ⟨tm, cc.ds⟩) (k := todo) (cs := frs ++ cs0) (run_endLoop (P := P) hR hne)
   have hset := zib hr hL hp (L' := { L with st := .exhausted }) (R' := { R with state := .exhausted }) ⟨rfl, hrel.2⟩
   refine ⟨_, frs, _, m, .one hs, hset, ⟨cc, tm, (R.pending.map Item.code).toList ++ todo, rfl, hcx, ht, hn, ?_⟩, hc, hb⟩
   rw [hrel.2.1]
   cases L.pend with
   | none => exact hk
   | some c => exact .cons rfl hk
theorem zn9 (hr : MRel B m M w) {cs0 : List Frame} {bt : FuncId} {cx : SCx} {cc : Cx} (hcx : zgv m cx cc) {n : Nat} {σ : Tree SV} {tm : Array Value} (ht : za6 m σ tm) (hn : tm.size = n) {g : Operand} {ps : Array Tmp} {assign body : Code}
  {k : List SItem} {todo : List Item} (hk : z8p (zak m) k todo) {cs : List z81} {frs : List Frame} (hc : z8p (zaj m) cs frs) (hb : zcn cx.fn cs = bt) :
  zd3 P B cs0 bt m M w (lone (mkF cc tm (.code (.rangeFunc g ps assign body) :: todo)) (frs ++ cs0) w) (zgd P cx n σ g ps assign body k cs M) := by
 have hrd := hcx.rd
 unfold zgd
 split
 next gf first captured ha =>
  obtain ⟨as, bs, has, hbs, hden⟩ := ze4 (zd8 hr ht ha)
  have heval : (Act.mk tm cc.ds).eval g = .func (.func gf) as.toArray bs.toArray := by rw [z96]; exact hden
  split
  next => trivial
  next hcall =>
   have hres : ∀ (l : Nat) (w1 : World), (resolve (Act.mk tm cc.ds).eval (rangeCall g l) 0).run P w1 = .ok { target := .fn (.func gf) bs.toArray, args := as.toArray ++ #[.func (.yield l) #[] #[]] } w1 := by
    intro l w1
    simp only [resolve, heval, Deferred.ofValue]
    simp [go_sem]
   have hinv : ∀ (l : Nat) (w1 : World), (invoke (.fn (.func gf) bs.toArray) (as.toArray ++ #[.func (.yield l) #[] #[]])).run P w1 = .ok (.enter gf (as.toArray ++ #[.func (.yield l) #[] #[]] ++ bs.toArray)) w1 := by
    intro l w1
    simp only [invoke, zc5 hcall]
   split
   next hl =>
    rw [hl] at hrd
    cases hcr : cc.rd with
    | some r => rw [hcr] at hrd; exact hrd.elim
    | none =>
     split
     next => trivial
     next f hf =>
      obtain ⟨m1, hs1, hm1⟩ := z82.laid hr .defd (.deferred (some [])) rfl (fun _ _ => rfl)
      have hext1 := hs1.ext hr
      obtain ⟨m2, hs2, hm2⟩ := z82.laid hs1.rel (.loop ⟨.ready, none, cx.fn, n, σ, ps.toList, assign, body, M.next⟩) (.loop { state := .ready, pending := none, fn := cc.fn, tmps := tm, params := ps, assign, body, defers := w.heap.size }) rfl
       (fun m' hm' => ⟨_, rfl, rfl, rfl, hcx.fn, (ht.ext hext1).ext hm', hn, rfl, rfl, rfl, ⟨w.heap.size, 0, 0⟩, hm' _ _ hm1, rfl⟩)
      have hext2 := hs2.ext hs1.rel
      have hst := hs1.trans hs2
      have hext := hst.ext hr
      have henter := run_enterLoop_outer (P := P) (w := w) cc.fn tm ps assign body
      rw [← hcr] at henter
      have hs := stepR_rangeFunc (P := P) (b := mkF cc tm []) (a := ⟨tm, cc.ds⟩) (k := todo) (cs := frs ++ cs0) (w := w) henter (hres _ _) (hinv _ _)
      refine ⟨_, mkF ⟨cc.fn, { target := .collected w.heap.size, args := #[] } :: cc.ds, cc.rd⟩ tm (.inRangeFunc (w.heap.size + 1) :: todo) :: frs, _, _, .one hs, hst, za2 hf ?_, .cons ⟨_, tm, _, rfl, ⟨hcx.fn, .cons ⟨⟨w.heap.size, 0, 0⟩, hext2 _ _ hm1, rfl⟩ (hcx.ext hext).ds, by rw [hcr]; trivial⟩, ht.ext hext, hn, .cons ⟨_, hm2, World.size_alloc _ _⟩ (z8p.mono (fun _ _ => zak.ext hext) hk)⟩ (z8w hext hc), ?_⟩
      ·rw [z9i, z9i]
       have hy : concs m2 [SV.yield M.next.succ] = some [Value.func (.yield (w.heap.size + 1)) #[] #[]] := concs_cons (by simp only [conc]; rw [show m2 M.next.succ = _ from hm2]; simp) (concs_nil _)
       have := z8b (z8b (z8s hext _ _ has) hy) (z8s hext _ _ hbs)
       simpa using this
      ·rw [← hb, zdh hf]; rfl
   next l0 hl =>
    rw [hl] at hrd
    cases hcr : cc.rd with
    | none => rw [hcr] at hrd; exact hrd.elim
    | some r =>
     rw [hcr] at hrd
     obtain ⟨p0, hp0, rfl⟩ := hrd
     split
     next => trivial
     next L0 hL0 =>
      obtain ⟨R0, hR0, hrel0⟩ := ze9 hr hL0 hp0
      obtain ⟨q, hq1, hq2⟩ := hrel0.2.2.2.2.2.2.2.2
      split
      next => trivial
      next f hf =>
       obtain ⟨m1, hst, hm1⟩ := z82.laid hr (.loop ⟨.ready, none, cx.fn, n, σ, ps.toList, assign, body, L0.df⟩) (.loop { state := .ready, pending := none, fn := cc.fn, tmps := tm, params := ps, assign, body, defers := R0.defers }) rfl
        (fun m' hm' => ⟨_, rfl, rfl, rfl, hcx.fn, ht.ext hm', hn, rfl, rfl, rfl, q, hm' _ _ hq1, hq2⟩)
       have hext := hst.ext hr
       have henter := run_enterLoop_inner (P := P) (w := w) hR0 cc.fn tm ps assign body
       rw [← hcr] at henter
       have hs := stepR_rangeFunc (P := P) (b := mkF cc tm []) (a := ⟨tm, cc.ds⟩) (k := todo) (cs := frs ++ cs0) (w := w) henter (hres _ _) (hinv _ _)
       refine ⟨_, mkF cc tm (.inRangeFunc w.heap.size :: todo) :: frs, _, _, .one hs, hst, za2 hf ?_, .cons ⟨cc, tm, _, rfl, hcx.ext hext, ht.ext hext, hn, .cons ⟨_, hm1, rfl⟩ (z8p.mono (fun _ _ => zak.ext hext) hk)⟩ (z8w hext hc), ?_⟩
       ·rw [z9i, z9i]
        have hy : concs m1 [SV.yield M.next] = some [Value.func (.yield w.heap.size) #[] #[]] := concs_cons (by simp only [conc]; rw [hm1]; simp) (concs_nil _)
        have := z8b (z8b (z8s hext _ _ has) hy) (z8s hext _ _ hbs)
        simpa using this
       ·rw [← hb, zdh hf]; rfl
 next => trivial
theorem zai (hr : MRel B m M w) (hI : Sound P B I) (hD : Sound P B D) (hmix : P.follows .mixedOrders = true) {cs0 : List Frame} {bt : FuncId} {f : z81} {fr : Frame} (hf : zaj m f fr) {cs : List z81} {frs : List Frame} (hc : z8p (zaj m) cs frs) (hb : zcn f.fn cs = bt) :
  zd3 P B cs0 bt m M w (lone fr (frs ++ cs0) w) (zim I D P f cs M) := by
 obtain ⟨cx, n, σ, k⟩ := f
 obtain ⟨cc, tm, todo, rfl, hcx, ht, hn, hk⟩ := hf
 have go : ∀ {todo' : List Item} {k' : List SItem}, step P (lone (mkF cc tm todo) (frs ++ cs0) w) = .next (lone (mkF cc tm todo') (frs ++ cs0) w) → z8p (zak m) k' todo' → zd3 P B cs0 bt m M w (lone (mkF cc tm todo) (frs ++ cs0) w) (.go (.mk cx n σ k') cs M) :=
  fun hs hk' => ⟨_, frs, w, m, .one hs, .refl hr, ⟨cc, tm, _, rfl, hcx, ht, hn, hk'⟩, hc, hb⟩
 cases hk with
 | nil => exact zmc hr hcx ht (fun hn => .one (stepR_end (P := P) (b := mkF cc tm []) (a := ⟨tm, cc.ds⟩) hn)) (fun l c fs v w' hl he hrun => by
   subst he; exact stepR_round_end (P := P) (b := mkF cc tm []) (a := ⟨tm, cc.ds⟩) hl rfl hrun) hc hb
 | cons hi hk =>
  rename_i s it k todo
  cases s with
  | inBlock id =>
   cases it <;> simp only [zak] at hi
   exact go (stepR_inBlock (P := P) (b := mkF cc tm []) (a := ⟨tm, cc.ds⟩)) hk
  | inScope c =>
   cases it <;> simp only [zak] at hi
   exact go (step_lone_go (by simp [stepG, stepG.exec, mkF])) hk
  | inLoop c =>
   cases it <;> simp only [zak] at hi
   subst hi
   exact go (stepR_inLoop (P := P) (b := mkF cc tm []) (a := ⟨tm, cc.ds⟩)) (.cons rfl (.cons rfl hk))
  | ops all rem =>
   cases it <;> simp only [zak] at hi
   obtain ⟨rfl, i, hdrop, rfl⟩ := hi
   cases rem with
   | nil =>
    have hnil : (List.range all.size).drop i = [] := by
     apply List.drop_eq_nil_of_le
     have := congrArg List.length hdrop
     simp at this
     simp; omega
    rw [hnil] at go ⊢
    exact go (stepR_region_end (P := P) (b := mkF cc tm []) (a := ⟨tm, cc.ds⟩)) hk
   | cons o r => exact zsf hr hI hcx ht hn hdrop hk hc hb
  | beginRound =>
   cases it <;> simp only [zak] at hi
   exact zmq hr hcx ht hn hk hc hb
  | inRange l => trivial
  | late all i => trivial
  | endRange l =>
   cases it <;> simp only [zak] at hi
   obtain ⟨p, hp, rfl⟩ := hi
   exact zqg hr hcx ht hn hp hk hc hb
  | code c =>
   cases it <;> simp only [zak] at hi
   subst hi
   show zd3 P B cs0 bt m M w _ (zqc D P cx n σ c k cs M)
   rw [znu]
   cases c with
   | skip => exact go (stepR_skip (P := P) (b := mkF cc tm []) (a := ⟨tm, cc.ds⟩)) hk
   | label l => exact go (stepR_label (P := P) (b := mkF cc tm []) (a := ⟨tm, cc.ds⟩)) hk
   | seq a b => exact go (stepR_seq (P := P) (b := mkF cc tm []) (a := ⟨tm, cc.ds⟩)) (.cons rfl (.cons rfl hk))
   | cond x a b =>
    simp only [zhx]
    split
    next hx =>
     have h := zd8 hr ht hx
     have e : den tm x = .bool true := by simp [conc] at h; exact h.symm
     exact go (stepR_cond (P := P) (b := mkF cc tm []) (a := ⟨tm, cc.ds⟩) (t := true) (by rw [z96]; exact e)) (.cons rfl hk)
    next hx =>
     have h := zd8 hr ht hx
     have e : den tm x = .bool false := by simp [conc] at h; exact h.symm
     exact go (stepR_cond (P := P) (b := mkF cc tm []) (a := ⟨tm, cc.ds⟩) (t := false) (by rw [z96]; exact e)) (.cons rfl hk)
    next => trivial
   | block id c => exact go (stepR_block (P := P) (b := mkF cc tm []) (a := ⟨tm, cc.ds⟩)) (.cons rfl (.cons rfl hk))
   | loop c => exact go (stepR_loop (P := P) (b := mkF cc tm []) (a := ⟨tm, cc.ds⟩)) (.cons rfl (.cons rfl hk))
   | scope c => exact go (todo' := .code c :: .inScope c :: todo) (k' := .code c :: .inScope c :: k) (step_lone_go (by simp [stepG, stepG.exec, mkF])) (.cons rfl (.cons rfl hk))
   | exit id =>
    have hx := zlr (id := id) hk
    simp only [zhx]
    split
    next k' hk' =>
     rw [hk'] at hx
     obtain ⟨t', h1, h2⟩ := hx
     exact go (stepR_exit (P := P) (b := mkF cc tm []) (a := ⟨tm, cc.ds⟩) h1) h2
    next hk' =>
     rw [hk'] at hx
     have hrd := hcx.rd
     split
     next => trivial
     next l hl =>
      rw [hl] at hrd
      cases hcr : cc.rd with
      | none => rw [hcr] at hrd; exact hrd.elim
      | some r =>
       rw [hcr] at hrd
       obtain ⟨p, hp, rfl⟩ := hrd
       exact zds hr (fn0 := cx.fn) hp (fun c fs v w' he hrun => by
        subst he; exact stepR_round_exit (P := P) (b := mkF cc tm []) (a := ⟨tm, cc.ds⟩) hcr rfl hx hrun) hc hb
   | ret => exact zmc hr hcx ht (fun hn => .one (stepR_ret (P := P) (b := mkF cc tm []) (a := ⟨tm, cc.ds⟩) hn)) (fun l c fs v w' hl he hrun => by
     subst he; exact stepR_round_ret (P := P) (b := mkF cc tm []) (a := ⟨tm, cc.ds⟩) hl rfl hrun) hc hb
   | rangeFunc g ps assign body => exact zn9 hr hcx ht hn hk hc hb
   | region id ops draw =>
    cases draw with
    | false => exact go (stepR_region (P := P) (b := mkF cc tm []) (a := ⟨tm, cc.ds⟩)) (.cons ⟨rfl, 0, rfl, rfl⟩ hk)
    | true =>
     have htl : zd3 P B cs0 bt m M w (lone (mkF cc tm (.code (.region id ops true) :: todo)) (frs ++ cs0) w) (zj6 D P cx n σ k cs M ops) := by
      unfold zj6
      split
      next N hseq =>
       split
       next σ1 M1 hrun =>
        obtain ⟨hfw, hok, hNs, htail⟩ := zph hseq
        have hs0 := stepR_region_draw (P := P) (b := mkF cc tm []) (a := ⟨tm, cc.ds⟩) (k := todo) (cs := frs ++ cs0) (w := w) (ops := ops) (id := id)
        rw [hmix] at hs0
        have hr1 : MRel B m M { w with drawn := w.drawn + 1 } := hr.drew rfl
        obtain ⟨m', w', tm', hs, hst, ht', hn'⟩ := zju (P := P) hD hok hNs htail hrun hr1 ht hn (z92 hfw _) cc todo (frs ++ cs0)
        have hst' : z82 B m M w m' (unlift M.floor M1) w' := ⟨hst.rel, hst.same, hst.keep, hst.next, ⟨hst.below.os, hst.below.tape, hst.below.output, hst.below.size, hst.below.block⟩, hst.frame, hst.born, hst.under, hst.floor, hst.fixes, hst.news⟩
        have hext := hst'.ext hr
        exact ⟨_, frs, w', m', .head hs0 hs, hst', ⟨cc, tm', _, rfl, hcx.ext hext, ht', hn', .cons ⟨rfl, N, rfl, rfl⟩ (z8p.mono (fun _ _ => zak.ext hext) hk)⟩, z8w hext hc, hb⟩
       next => trivial
      next => trivial
     simp only [zhx, zc4]
     split
     next plan hplan =>
      split
      next σ' M' hdr =>
       obtain ⟨hfw, hval⟩ := zjs hplan
       have hs0 := stepR_region_draw (P := P) (b := mkF cc tm []) (a := ⟨tm, cc.ds⟩) (k := todo) (cs := frs ++ cs0) (w := w) (ops := ops) (id := id)
       rw [hmix] at hs0
       have hr1 : MRel B m M { w with drawn := w.drawn + 1 } := hr.drew rfl
       have hmid : Mid P B ops n m M { w with drawn := w.drawn + 1 } σ tm [] (Region.schedule true ops (w.tape w.drawn (.order cc.fn id))) [] [] :=
        ⟨hr1, hn, z92 hfw _, by simp, by simp, by simp, by simp, fun t s hts _ => ht t s hts, by simp, by simp, by simp⟩
       obtain ⟨m', w', tm', hs, hst, ht', hn'⟩ := zny (P := P) hD cc todo (frs ++ cs0) plan hdr hval hmid
       have hst' : z82 B m M w m' M' w' := ⟨hst.rel, hst.same, hst.keep, hst.next, ⟨hst.below.os, hst.below.tape, hst.below.output, hst.below.size, hst.below.block⟩, hst.frame, hst.born, hst.under, hst.floor, hst.fixes, hst.news⟩
       have hext := hst'.ext hr
       exact ⟨_, frs, w', m', .head hs0 hs, hst', ⟨cc, tm', _, rfl, hcx.ext hext, ht', hn', z8p.mono (fun _ _ => zak.ext hext) hk⟩, z8w hext hc, hb⟩
      next => exact htl
     next =>
      split
      next N hpure =>
       split
       next σ1 M1 hrun =>
        split
        next σ' M' hrun2 =>
         obtain ⟨hfw, hok, hNs, htail⟩ := zr5 hpure
         have hs0 := stepR_region_draw (P := P) (b := mkF cc tm []) (a := ⟨tm, cc.ds⟩) (k := todo) (cs := frs ++ cs0) (w := w) (ops := ops) (id := id)
         rw [hmix] at hs0
         have hr1 : MRel B m M { w with drawn := w.drawn + 1 } := hr.drew rfl
         obtain ⟨m', w', tm', hs, hst, ht', hn'⟩ := zpb (P := P) hD hok hNs htail hrun hrun2 hr1 ht hn (z92 hfw _) cc todo (frs ++ cs0)
         have hst' : z82 B m M w m' M' w' := ⟨hst.rel, hst.same, hst.keep, hst.next, ⟨hst.below.os, hst.below.tape, hst.below.output, hst.below.size, hst.below.block⟩, hst.frame, hst.born, hst.under, hst.floor, hst.fixes, hst.news⟩
         have hext := hst'.ext hr
         exact ⟨_, frs, w', m', .head hs0 hs, hst', ⟨cc, tm', _, rfl, hcx.ext hext, ht', hn', z8p.mono (fun _ _ => zak.ext hext) hk⟩, z8w hext hc, hb⟩
        next => exact htl
       next => trivial
      next => trivial
   | _ => trivial
theorem zd3.comp {cs0 : List Frame} {bt : FuncId} {m1 : Map} {M1 : Mem} {w1 : World} {mach mach1 : Machine} (hs : Steps P mach mach1) (hst : z82 B m M w m1 M1 w1) {r : Res} (h : zd3 P B cs0 bt m1 M1 w1 mach1 r) : zd3 P B cs0 bt m M w mach r := by
 cases r with
 | bad => trivial
 | go f cs M' =>
  obtain ⟨fr, frs, w', m', h1, h2, h3⟩ := h
  exact ⟨fr, frs, w', m', hs.trans h1, hst.trans h2, h3⟩
 | done v M' =>
  obtain ⟨fr, w', m', x, h1, h2, h3⟩ := h
  exact ⟨fr, w', m', x, hs.trans h1, hst.trans h2, h3⟩
theorem zm8 (hI : Sound P B I) (hD : Sound P B D) (hmix : P.follows .mixedOrders = true) {cs0 : List Frame} {bt : FuncId} {cx : SCx} {n : Nat} {all : Array Oper} {k : List SItem} {cs : List z81} : ∀ (r : List Oper) {m : Map} {M : Mem} {w : World} {σ : Tree SV} {fr : Frame} {frs : List Frame},
  MRel B m M w → zaj m (.mk cx n σ (.ops all r :: k)) fr → z8p (zaj m) cs frs → zcn cx.fn cs = bt → zd3 P B cs0 bt m M w (lone fr (frs ++ cs0) w) (opL I P cx n all k cs r σ M)
 | [], _, _, _, _, _, _, hr, hf, hc, hb => zai (D := D) hr hI hD hmix hf hc hb
 | o :: r, m, M, w, σ, fr, frs, hr, hf, hc, hb => by
  have h : zd3 P B cs0 bt m M w (lone fr (frs ++ cs0) w) (opS I P cx n σ all o r k cs M) := zai (D := D) hr hI hD hmix hf hc hb
  rcases zr2 I P cx n all k cs o r σ M with ⟨σ', M', h1, h2⟩ | h1
  ·rw [h1] at h
   rw [h2]
   obtain ⟨fr', frs', w', m', hs, hst, hf', hc', hb'⟩ := h
   exact (zm8 hI hD hmix r hst.rel hf' hc' hb').comp hs hst
  ·rw [h1]
   exact h
theorem zpk (hr : MRel B m M w) (hI : Sound P B I) (hD : Sound P B D) (hmix : P.follows .mixedOrders = true) {cs0 : List Frame} {bt : FuncId} {f : z81} {fr : Frame} (hf : zaj m f fr) {cs : List z81} {frs : List Frame} (hc : z8p (zaj m) cs frs) (hb : zcn f.fn cs = bt) :
  zd3 P B cs0 bt m M w (lone fr (frs ++ cs0) w) (zu5 I D P f cs M) := by
 have h := zai (I := I) (D := D) hr hI hD hmix (cs0 := cs0) hf hc hb
 obtain ⟨cx, n, σ, k⟩ := f
 cases k with
 | nil => exact h
 | cons it k =>
  cases it with
  | ops all r => exact zm8 hI hD hmix r hr hf hc hb
  | _ => exact h
end
end Go.Ev
