/- A part of the small machine. -/
import Derived.Test.YtjddbfpinjjkkaaGreatDoorEvL14
set_option linter.unusedVariables false
namespace Go.Ev
open Go.RowKit
variable {P : Program}
section
variable {B : Nat} {n N : Nat} {all : Array Oper} {Ms : Nat → Mem} {σs : Nat → Tree SV} {ss : Nat → SV} {m0 : Map} {w0 : World}
theorem zgo {M : Mem} {σ : Tree SV} {k : Nat} {o : Oper} (hf : z9r P o.op = true) (h : zmo P all M σ k) (ho : all[k]? = some o) : ∃ s, zbi P all M σ o s M ∧ ∀ d, o.dst = some d → σ.get (Pos.ofNat d) = some s := by
 obtain ⟨o', s, h1, h2, h3⟩ := h
 rw [ho] at h1
 cases h1
 refine ⟨s, ?_, h3⟩
 have hfl := zjb (P := P) (M := M) (σ := σ) hf
 unfold zd0 at h2
 split at h2
 ·simp at h2
 ·rename_i hw
  simp only [Option.some.injEq] at h2
  exact .inl ⟨hw, h2.symm, rfl⟩
 ·rename_i hw
  split at h2
  ·rename_i s' M' hx
   simp only [Option.some.injEq] at h2
   subst h2
   rw [hx] at hfl
   have hM : M' = M := hfl
   subst hM
   exact .inr ⟨hw, .inl hx⟩
  ·simp at h2
inductive SeqL (P : Program) (n : Nat) (all : Array Oper) (L : List Nat) : List Oper → Tree SV → Mem → Tree SV → Mem → Prop
 | nil {σ M} : SeqL P n all L [] σ M σ M
 | cons {o r σ M s M1 σ1 σ' M'} : zbi P all M σ o s M1 → zam σ n o.dst s = some σ1 → z8g P all M1 σ1 L = true → SeqL P n all L r σ1 M1 σ' M' → SeqL P n all L (o :: r) σ M σ' M'
theorem zpi (hmix : P.follows .mixedOrders = true) {all : Array Oper} (hok : PureOK all) {N : Nat} {L : List Nat} (hfl : ∀ k ∈ L, ∀ o, all[k]? = some o → z9r P o.op = true) (htail : ∀ i, N ≤ i → i < all.size → ∀ k, k < i → Before all k i ∨ (k < N ∧ k ∈ L)) (cx : Cx) (todo : List Item) (fs : List Frame) :
  ∀ (rest : List Nat) {r : List Oper} {i : Nat} {S : List Nat} {m : Map} {M : Mem} {w : World} {σ σ' : Tree SV} {tm : Array Value} {M' : Mem}, N ≤ i → i ≤ all.size → all.toList.drop i = r → SeqL P n all L r σ M σ' M' →
   MRel B m M w → (∀ t s, σ.get (Pos.ofNat t) = some s → (∀ (k : Nat) (o : Oper), k < N → k ∉ S → all[k]? = some o → o.dst ≠ some t) → ∃ v, tm[t]? = some v ∧ conc m s = some v) → tm.size = n → Topo all S rest → (∀ k ∈ S, ∀ l, Before all l k → l ∈ S) → (∀ k ∈ S, k < i) → (∀ k, k < i → k ∈ S ∨ (k < N ∧ k ∈ L)) →
   (∀ (k : Nat) (o : Oper), k < N → k ∉ S → all[k]? = some o → ∃ s, zbi P all M σ o s M ∧ ∀ d, o.dst = some d → σ.get (Pos.ofNat d) = some s ∧ d < n) →
   ∃ m' w' tm', Steps P (lone (mkF cx tm (.inRegion all rest :: todo)) fs w) (lone (mkF cx tm' todo) fs w') ∧ z82 B m M w m' M' w' ∧ za6 m' σ' tm' ∧ tm'.size = n := by
 intro rest
 induction rest with
 | nil =>
  intro r i S m M w σ σ' tm M' hNi hi hd hrun hr hT hn tp hcl hS hS2 hP
  cases tp with
  | nil hall =>
   have hie : i = all.size := by
    apply Classical.byContradiction
    intro e
    have := hS i (hall i (by omega))
    omega
   have hr0 : r = [] := by
    have := congrArg List.length hd
    simp at this
    exact List.eq_nil_of_length_eq_zero (by omega)
   subst hr0
   cases hrun
   refine ⟨m, w, tm, .one (stepR_region_end (P := P) (b := mkF cx tm []) (a := ⟨tm, cx.ds⟩)), .refl hr, fun t s hts => hT t s hts fun k o hk hkS ho => ?_, hn⟩
   exact absurd (hall k (Array.getElem?_eq_some_iff.1 ho).1) hkS
 | cons j rest ih =>
  intro r i S m M w σ σ' tm M' hNi hi hd hrun hr hT hn tp hcl hS hS2 hP
  have htopo := tp
  cases tp with
  | cons hj ho hp tp' =>
  rename_i o
  have hjs := (Array.getElem?_eq_some_iff.1 ho).1
  let ds := ((List.range N).filter (fun k => decide (k ∉ S))).filterMap fun k => (all[k]?).bind (·.dst)
  have hds : ∀ t, t ∈ ds ↔ ∃ k, k < N ∧ k ∉ S ∧ ∃ o', all[k]? = some o' ∧ o'.dst = some t := by
   intro t
   simp only [ds, List.mem_filterMap, List.mem_filter, List.mem_range, decide_eq_true_eq, Option.bind_eq_some_iff]
   constructor
   ·rintro ⟨k, ⟨h1, h2⟩, o', h3, h4⟩; exact ⟨k, h1, h2, o', h3, h4⟩
   ·rintro ⟨k, h1, h2, o', h3, h4⟩; exact ⟨k, ⟨h1, h2⟩, o', h3, h4⟩
  have hag : zdb (z8d all o) σ (erase ds σ) := by
   intro t htr
   rw [z99]
   split
   ·rename_i hin
    obtain ⟨k, h1, h2, o', h3, h4⟩ := (hds t).1 hin
    exact absurd (z8a ho hp hcl (hok.rd k j o o' t ho h3 h4 htr).1) h2
   ·rfl
  have htr : za6 m (erase ds σ) tm := by
   intro t s hts
   rw [z99] at hts
   split at hts
   ·simp at hts
   ·rename_i hin
    exact hT t s hts fun k o' hk hkS h3 h4 => hin ((hds t).2 ⟨k, hk, hkS, o', h3, h4⟩)
  have hcl' : ∀ k ∈ j :: S, ∀ l, Before all l k → l ∈ j :: S := by
   intro k hk l hl
   rcases List.mem_cons.1 hk with rfl | hk
   ·exact List.mem_cons_of_mem _ (z8a ho hp hcl hl)
   ·exact List.mem_cons_of_mem _ (hcl k hk l hl)
  have hevE : ∀ {M0 : Mem} {s : SV} {M1 : Mem}, zbi P all M0 σ o s M1 → zbi P all M0 (erase ds σ) o s M1 := by
   intro M0 s M1 he
   have e1 : z8e all (erase ds σ) o = z8e all σ o := (z9c hag).symm
   have e2 : exec P M0 (erase ds σ) o = exec P M0 σ o := (z9w (fun t htr => hag t (by simp only [z8d, List.mem_append]; exact .inr htr))).symm
   unfold zbi at he ⊢
   rw [e1, e2]
   exact he
  by_cases hjN : j < N
  ·-- one that has waited
   obtain ⟨s, he, hdst⟩ := hP j o hjN hj ho
   obtain ⟨m1, w1, v, hst, hv, hsteps⟩ := zdj (P := P) hmix hr htr (hevE he) cx ho rest todo fs
   obtain ⟨tm', hpt, hsz, hne, heq⟩ := zb6 (tm := tm) o.dst v
   have hext := hst.ext hr
   obtain ⟨m2, w2, tm2, hs2, hst2, hT2, hn2⟩ := ih hNi hi hd hrun hst.rel (fun t x hx hcond => by
     by_cases hd' : o.dst = some t
     ·obtain ⟨g1, g2⟩ := hdst t hd'
      rw [g1] at hx
      cases hx
      exact ⟨v, heq t hd' (by rw [hn]; exact g2), hv⟩
     ·obtain ⟨u, g1, g2⟩ := hT t x hx fun k o' hk hkS h3 => by
       by_cases e : k = j
       ·subst e
        rw [ho] at h3; cases h3
        exact hd'
       ·exact hcond k o' hk (fun e' => (List.mem_cons.1 e').elim e hkS) h3
      exact ⟨u, by rw [hne t hd']; exact g1, z8c hext _ _ g2⟩) (hsz.trans hn) tp' hcl' (fun k hk => (List.mem_cons.1 hk).elim (fun e => by subst e; omega) (hS k)) (fun k hk => (hS2 k hk).imp (List.mem_cons_of_mem _) id) (fun k o' hk hkS h3 => hP k o' hk (fun e => hkS (List.mem_cons_of_mem _ e)) h3)
   exact ⟨m2, w2, tm2, (hsteps tm' hpt).trans hs2, hst.trans hst2, hT2, hn2⟩
  ·-- the next one of the tail
   have hji : j = i := by
    apply Classical.byContradiction
    intro e
    by_cases hlt : j < i
    ·rcases hS2 j hlt with h | h
     ·exact hj h
     ·omega
    ·rcases htail j (by omega) hjs i (by omega) with h | h
     ·have := hS i (z8a ho hp hcl h)
      omega
     ·omega
   subst hji
   have hd1 : all.toList.drop j = o :: all.toList.drop (j + 1) := by
    have hlt' : j < all.toList.length := by simpa using hjs
    have := List.drop_eq_getElem_cons hlt'
    rw [this]
    have e : all.toList[j] = o := by
     have := (Array.getElem?_eq_some_iff.1 ho).2
     simpa using this
    rw [e]
   rw [hd1] at hd
   subst hd
   cases hrun with
   | cons he hput hst0 hrun =>
     rename_i s M1 σ1
     obtain ⟨hp1, hp2⟩ := z8u hput
     obtain ⟨m1, w1, v, hst, hv, hsteps⟩ := zdj (P := P) hmix hr htr (hevE he) cx ho rest todo fs
     obtain ⟨tm', hpt, hsz, hne, heq⟩ := zb6 (tm := tm) o.dst v
     have hext := hst.ext hr
     obtain ⟨m2, w2, tm2, hs2, hst2, hT2, hn2⟩ := ih (i := j + 1) (by omega) (by omega) rfl hrun hst.rel (fun t x hx hcond => by
       by_cases hd' : o.dst = some t
       ·obtain ⟨g1, g2⟩ := hp2 t hd'
        rw [g2] at hx
        cases hx
        exact ⟨v, heq t hd' (by rw [hn]; exact g1), hv⟩
       ·rw [hp1 t hd'] at hx
        obtain ⟨u, g1, g2⟩ := hT t x hx fun k o' hk hkS h3 => hcond k o' hk (fun e' => (List.mem_cons.1 e').elim (fun e => by omega) hkS) h3
        exact ⟨u, by rw [hne t hd']; exact g1, z8c hext _ _ g2⟩) (hsz.trans hn) tp' hcl' (fun k hk => (List.mem_cons.1 hk).elim (fun e => by omega) (fun h => by have := hS k h; omega)) (fun k hk => by
       by_cases e : k = j
       ·exact .inl (by simp [e])
       ·exact (hS2 k (by omega)).imp (List.mem_cons_of_mem _) id) (fun k o' hk hkS h3 => by
       have hkS' : k ∉ S := fun e => hkS (List.mem_cons_of_mem _ e)
       obtain ⟨s', _, g2⟩ := hP k o' hk hkS' h3
       have hkL : k ∈ L := by
        rcases hS2 k (by omega) with h | h
        ·exact absurd h hkS'
        ·exact h.2
       obtain ⟨s2, g3, g4⟩ := zgo (hfl k hkL o' h3) (z9l hst0 k hkL) h3
       exact ⟨s2, g3, fun d hd' => ⟨g4 d hd', (g2 d hd').2⟩⟩)
     exact ⟨m2, w2, tm2, (hsteps tm' hpt).trans hs2, hst.trans hst2, hT2, hn2⟩
theorem zn8 (hmix : P.follows .mixedOrders = true) {all : Array Oper} (hok : PureOK all) {N : Nat} {L : List Nat} (hfl : ∀ k ∈ L, ∀ o, all[k]? = some o → z9r P o.op = true) (hNs : N ≤ all.size) (htail : ∀ i, N ≤ i → i < all.size → ∀ k, k < i → Before all k i ∨ (k < N ∧ k ∈ L)) {m : Map} {M : Mem} {w : World} {σ σ1 σ' : Tree SV} {tm : Array Value} {M1 M' : Mem} {rest : List Nat}
  (hrun : PureR P n all (all.toList.take N) σ M σ1 M1) (hL0 : z8g P all (unlift M.floor M1) σ1 L = true) (hrun2 : SeqL P n all L (all.toList.drop N) σ1 (unlift M.floor M1) σ' M')
  (hr : MRel B m M w) (hT : za6 m σ tm) (hn : tm.size = n) (topo : Topo all [] rest) (cx : Cx) (todo : List Item) (fs : List Frame) :
  ∃ m' w' tm', Steps P (lone (mkF cx tm (.inRegion all rest :: todo)) fs w) (lone (mkF cx tm' todo) fs w') ∧ z82 B m M w m' M' w' ∧ za6 m' σ' tm' ∧ tm'.size = n := by
 obtain ⟨Ms, σs, ss, ht, rfl, rfl, rfl, rfl⟩ := zg9 hNs (all.toList.take N) 0 σ M (Nat.zero_le _) rfl hrun
 have hs := zud (P := P) hmix hNs ht hr hT hn
 have hext0 : ∀ b p, m b = some p → b.num < (Ms 0).next.num := by
  intro b p hb
  apply Classical.byContradiction
  intro e
  rw [(hr.fresh b (by omega)).1] at hb
  simp at hb
 have hcut : ∀ i, i ≤ N → cut m (Ms i).next.num = m := by
  intro i hi
  funext b
  unfold cut
  split
  ·rfl
  ·rename_i hb
   have := hs.next 0 i (by omega) hi
   exact ((hr.fresh b (by omega)).1).symm
 have h0 : Inv B all N n Ms σs ss m w m w tm [] := by
  refine ⟨fun i hi => ?_, hn, by simp, fun t s hts _ => by rw [hcut 0 (Nat.zero_le _)]; exact hT t s hts, fun j hj _ b h1 _ => ?_, fun _ _ => rfl, Below.refl _ _, fun _ _ _ => rfl, fun k hk ho => ?_, fun b p hb hp _ => absurd hp (by rw [(hr.fresh b hb).1]; simp), by simp, by simp⟩
  ·rw [hcut i hi]
   have hnx := hs.next 0 i (by omega) hi
   have hg : ∀ b p, m b = some p → (Ms i).t.get b = (Ms 0).t.get b := fun b p hb => hs.old 0 i (by omega) hi b (hext0 b p hb)
   refine ⟨fun b o p hb hp => hr.objs b o p (by rw [← hg b p hp]; exact hb) hp, fun b b' o o' p p' h1 h2 how h3 h4 he => hr.inj b b' o o' p p' (by rw [← hg b p h3]; exact h1) (by rw [← hg b' p' h4]; exact h2) how h3 h4 he,
    fun b hb => ⟨(hr.fresh b (by omega)).1, hs.none i hi b hb⟩, hr.bound, fun b o p hb hown hp => hr.low b o p (by rw [← hg b p hp]; exact hb) hown hp, hr.base, fun b c hc => hr.glob b c (hs.fixes i hi b c hc), hs.flo i hi⟩
  ·have := hs.next 0 j (by omega) (by omega)
   exact (hr.fresh b (by omega)).1
  ·rw [hcut _ (Nat.le_refl _)] at ho
   obtain ⟨c, x, q, hx, hxo, hq, hqe⟩ := ho
   exact ⟨c, x, q, by rw [← hs.old 0 N (by omega) (Nat.le_refl _) c (hext0 c q hq)]; exact hx, hxo, hq, hqe⟩
 have key : ∀ (rest : List Nat) (S : List Nat) (m1 : Map) (w1 : World) (tm1 : Array Value), Inv B all N n Ms σs ss m w m1 w1 tm1 S → Topo all S rest →
   ∃ m' w' tm' S' rest', Steps P (lone (mkF cx tm1 (.inRegion all rest :: todo)) fs w1) (lone (mkF cx tm' (.inRegion all rest' :: todo)) fs w') ∧ Inv B all N n Ms σs ss m w m' w' tm' S' ∧ Topo all S' rest' ∧ ∀ i, i < N → i ∈ S' ∨ i ∈ L := by
  intro rest
  induction rest with
  | nil =>
   intro S m1 w1 tm1 h tp
   cases tp with
   | nil hall => exact ⟨m1, w1, tm1, S, [], .refl _ _, h, .nil hall, fun i hi => .inl (hall i (by omega))⟩
  | cons j rest ih =>
   intro S m1 w1 tm1 h tp
   by_cases hj : j < N
   ·obtain ⟨m2, w2, tm2, hs2, h2⟩ := h.stepR (P := P) hmix hok hNs ht hs tp hj cx todo fs
    cases tp with
    | cons _ _ _ tp' =>
     obtain ⟨m3, w3, tm3, S3, r3, hs3, h3, tp3, hall⟩ := ih _ _ _ _ h2 tp'
     exact ⟨m3, w3, tm3, S3, r3, hs2.trans hs3, h3, tp3, hall⟩
   ·refine ⟨m1, w1, tm1, S, j :: rest, .refl _ _, h, tp, fun i hi => ?_⟩
    cases tp with
    | cons hjS ho hp _ =>
     rcases htail j (by omega) (Array.getElem?_eq_some_iff.1 ho).1 i (by omega) with hb | hb
     ·exact .inl (z8a ho hp h.closed hb)
     ·exact .inr hb.2
 obtain ⟨m1, w1, tm1, S, rest1, hsteps, h, tp1, hall⟩ := key rest [] m w tm h0 topo
 have hN := hs.next 0 N (Nat.zero_le _) (Nat.le_refl _)
 have hrN := h.rel N (Nat.le_refl _)
 have hst1 : z82 B m (Ms 0) w (cut m1 (Ms N).next.num) (unlift (Ms 0).floor (Ms N)) w1 := by
  refine ⟨⟨hrN.objs, hrN.inj, hrN.fresh, hrN.bound, hrN.low, hrN.base, hrN.glob, ?_⟩, fun b hb => ?_, fun b hb _ => hs.old 0 N (Nat.zero_le _) (Nat.le_refl _) b hb, hN, h.below, h.frame, h.born, fun b hb => ?_, rfl, fun b c hc => hs.fixes N (Nat.le_refl _) b c hc, fun b p hb hp hlt => h.news b p hb (z8l hp).2 hlt⟩
  ·show (Ms 0).floor ≤ (Ms N).next.num
   have := hr.flo
   omega
  ·rw [z98 (by omega)]; exact h.same b hb
  ·have := hr.flo
   exact hs.old 0 N (Nat.zero_le _) (Nat.le_refl _) b (by omega)
 have hT1 : ∀ t s, (σs N).get (Pos.ofNat t) = some s → (∀ (k : Nat) (o : Oper), k < N → k ∉ S → all[k]? = some o → o.dst ≠ some t) → ∃ v, tm1[t]? = some v ∧ conc (cut m1 (Ms N).next.num) s = some v := by
  intro t s hts hcond
  by_cases hex : ∃ (i : Nat) (o' : Oper), i < N ∧ all[i]? = some o' ∧ o'.dst = some t
  ·obtain ⟨i, o', hi, h3, h4⟩ := hex
   have hiS : i ∈ S := by
    apply Classical.byContradiction
    intro e
    exact hcond i o' hi e h3 h4
   rw [(zf7 hok hNs ht h3 h4 N hi (Nat.le_refl _)).1] at hts
   cases hts
   obtain ⟨v, g1, g2⟩ := h.fin i hiS o' t h3 h4
   exact ⟨v, g1, z8c (zb4 (hs.next (i + 1) N (by omega) (Nat.le_refl _))) _ _ g2⟩
  ·have hno : ∀ (i : Nat) (o' : Oper), i < N → all[i]? = some o' → o'.dst ≠ some t := fun i o' hi h3 h4 => hex ⟨i, o', hi, h3, h4⟩
   rw [zei hNs ht N (Nat.le_refl _) t fun i o' hi h3 => hno i o' hi h3] at hts
   obtain ⟨v, g1, g2⟩ := h.old t s hts hno
   exact ⟨v, g1, z8c (zb4 hN) _ _ g2⟩
 have hP1 : ∀ (k : Nat) (o : Oper), k < N → k ∉ S → all[k]? = some o → ∃ s, zbi P all (unlift (Ms 0).floor (Ms N)) (σs N) o s (unlift (Ms 0).floor (Ms N)) ∧ ∀ d, o.dst = some d → (σs N).get (Pos.ofNat d) = some s ∧ d < n := by
  intro k o hk hkS ho
  have hkL : k ∈ L := (hall k hk).resolve_left hkS
  obtain ⟨s, g1, g2⟩ := zgo (hfl k hkL o ho) (z9l hL0 k hkL) ho
  exact ⟨s, g1, fun d hd => ⟨g2 d hd, (zf7 hok hNs ht ho hd N hk (Nat.le_refl _)).2⟩⟩
 obtain ⟨m2, w2, tm2, hs2, hst2, hT2, hn2⟩ := zpi (P := P) hmix hok hfl htail cx todo fs rest1 (Nat.le_refl N) hNs rfl hrun2 hst1.rel hT1 h.size tp1 h.closed h.sub (fun k hk => (hall k hk).imp id fun e => ⟨hk, e⟩) hP1
 exact ⟨m2, w2, tm2, hsteps.trans hs2, hst1.trans hst2, hT2, hn2⟩
noncomputable def zsa (P : Program) (ops : Array Oper) (N : Nat) (L : List Nat) : Bool :=
 z9s ops && zhf ops (z94 ops.toList) && Nat.ble N ops.size && ((List.range ops.size).all fun i => Nat.blt i N || (List.range i).all fun k => zhw (z94 ops.toList) k i || (Nat.blt k N && zlw L k)) && L.all fun k => match ops[k]? with
  | none => true
  | some o => z9r P o.op
theorem zqy {ops : Array Oper} {N : Nat} {L : List Nat} (h : zsa P ops N L = true) : z9s ops = true ∧ PureOK ops ∧ N ≤ ops.size ∧ (∀ i, N ≤ i → i < ops.size → ∀ k, k < i → Before ops k i ∨ (k < N ∧ k ∈ L)) ∧ ∀ k ∈ L, ∀ o, ops[k]? = some o → z9r P o.op = true := by
 unfold zsa at h
 simp only [Bool.and_eq_true] at h
 obtain ⟨⟨⟨⟨h1, h2⟩, h3⟩, h4⟩, h5⟩ := h
 refine ⟨h1, zdq h2, Nat.le_of_ble_eq_true h3, fun i hi hi' k hk => ?_, fun k hk o ho => ?_⟩
 ·have := (List.all_eq_true.1 h4) i (List.mem_range.2 hi')
  rw [Bool.or_eq_true, List.all_eq_true] at this
  rcases this with e | e
  ·have := Nat.lt_of_succ_le (Nat.le_of_ble_eq_true e)
   omega
  ·have := e k (List.mem_range.2 hk)
   rw [Bool.or_eq_true, Bool.and_eq_true] at this
   rcases this with e | e
   ·exact .inl (z8o hi' e)
   ·exact .inr ⟨Nat.lt_of_succ_le (Nat.le_of_ble_eq_true e.1), z8t.1 e.2⟩
 ·have := (List.all_eq_true.1 h5) k hk
  rw [ho] at this
  exact this
end
section
variable {fx : Fx} {n : Nat} {Q : SV → Mem → Prop} {e : Env} {k : List SItem} {M : Mem} {all : Array Oper} {L : List Nat} {C : Env → Mem → Prop}
def za1 (P : Program) (n : Nat) (all : Array Oper) (C : Env → Mem → Prop) (r : List Oper) (e : Env) (M : Mem) : Prop :=
 WF M → ∃ e' M', PureR P n all r (treeOf e) M (treeOf e') M' ∧ Aft M (unlift M.floor M') ∧ C e' (unlift M.floor M')
theorem za1.nil (h : C e M) : za1 P n all C [] e M := fun hw => ⟨e, M, .nil, .refl hw, h⟩
def zb3 (P : Program) (fx : Fx) (n : Nat) (Q : SV → Mem → Prop) (all : Array Oper) (L : List Nat) (k : List SItem) (r : List Oper) (e : Env) (M : Mem) : Prop :=
 WF M → ∃ e' M', SeqL P n all L r (treeOf e) M (treeOf e') M' ∧ Aft M M' ∧ Run P fx n Q e' k M'
theorem zb3.nil (h : Run P fx n Q e k M) : zb3 P fx n Q all L k [] e M := fun hw => ⟨e, M, .nil, .refl hw, h⟩
section
variable {op : Op} {ty : TypeId} {pos : String} {af : Array Edge} {g : Option (Nat × Bool)} {d : Option Tmp} {s : SV} {r : List Oper}
theorem za1.step {o : Oper} {M1 : Mem} {e1 : Env} {s : SV} (hv : zbi P all (lift M) (treeOf e) o s M1) (hp : zam (treeOf e) n o.dst s = some (treeOf e1)) (hw : WF M → Aft M (unlift M.floor M1))
  (h : za1 P n all C r e1 (unlift M.floor M1)) : za1 P n all C (o :: r) e M := fun hwf => by
 obtain ⟨e', M', h1, h2, h3⟩ := h (hw hwf).wf
 obtain ⟨M'', h4, h5⟩ := zeu h1
 refine ⟨e', M'', .cons hv hp h4, ?_, ?_⟩
 ·rw [h5]; exact (hw hwf).trans h2
 ·rw [h5]; exact h3
theorem za1.val (hw : z8e all (treeOf e) ⟨d, op, ty, pos, af, g⟩ = some true) (hx : execO P (lift M) (treeOf e) op = .val s (lift M)) (hd : okD d n = true)
  (h : za1 P n all C r (putE d s e) M) : za1 P n all C (⟨d, op, ty, pos, af, g⟩ :: r) e M := by
 refine za1.step (M1 := lift M) (s := s) ?_ (z89 hd) (fun hw => .refl hw) h
 have hx' : exec P (lift M) (treeOf e) ⟨d, op, ty, pos, af, g⟩ = .val s (lift M) := hx
 exact .inr ⟨hw, .inl hx'⟩
theorem za1.no (hw : z8e all (treeOf e) ⟨d, op, ty, pos, af, g⟩ = some false) (hd : okD d n = true)
  (h : za1 P n all C r (putE d (.tuple []) e) M) : za1 P n all C (⟨d, op, ty, pos, af, g⟩ :: r) e M := by
 refine za1.step (M1 := lift M) (s := .tuple []) ?_ (z89 hd) (fun hw => .refl hw) h
 exact .inl ⟨hw, rfl, rfl⟩
theorem za1.new {F : Rd} {H : List Ent} {tt : TypeId} {rk : RK} {v : Pos → SV} {c : List SV} (hw : z8e all (treeOf e) ⟨d, op, ty, pos, af, g⟩ = some true) (hx : execO P (lift M) (treeOf e) op = .val (v (z90 (lift M))) (z8k tt rk (lift M) c)) (hd : okD d n = true) (hH : Has F M H)
  (h : ∀ b M', Has F M' (.obj b (.row tt rk c) :: H) → za1 P n all C r (putE d (v b) e) M') : za1 P n all C (⟨d, op, ty, pos, af, g⟩ :: r) e M := fun hwf => by
 have hnr : z8k tt rk (lift M) c = ⟨M.t.put (some (.row tt rk c)) M.next, M.next.succ, M.next.num⟩ := rfl
 have hnx : z90 (lift M) = M.next := rfl
 rw [hnr, hnx] at hx
 have h' := h M.next ⟨M.t.put (some (.row tt rk c)) M.next, M.next.succ, M.floor⟩ (hH.newObj hwf rfl)
 refine za1.step (M1 := ⟨M.t.put (some (.row tt rk c)) M.next, M.next.succ, M.next.num⟩) (s := v M.next) ?_ (z89 hd) (fun hw => hw.anew _) h' hwf
 have hx' : exec P (lift M) (treeOf e) ⟨d, op, ty, pos, af, g⟩ = .val (v M.next) ⟨M.t.put (some (.row tt rk c)) M.next, M.next.succ, M.next.num⟩ := hx
 exact .inr ⟨hw, .inl hx'⟩
theorem za1.newVec {F : Rd} {H : List Ent} {tt : TypeId} {j z : Nat} {c : List SV} (hw : z8e all (treeOf e) ⟨d, op, ty, pos, af, g⟩ = some true) (hx : execO P (lift M) (treeOf e) op = .val (.slice (z90 (lift M)) 0 j j) (z8k tt (.head 0) (lift M) c)) (hd : okD d n = true) (hc : c.length = j * z) (hH : Has F M H)
  (h : ∀ s M', Has F M' (.vec tt z j s c :: H) → za1 P n all C r (putE d s e) M') : za1 P n all C (⟨d, op, ty, pos, af, g⟩ :: r) e M := fun hwf => by
 have hnr : z8k tt (.head 0) (lift M) c = ⟨M.t.put (some (.row tt (.head 0) c)) M.next, M.next.succ, M.next.num⟩ := rfl
 have hnx : z90 (lift M) = M.next := rfl
 rw [hnr, hnx] at hx
 have h' := h (.slice M.next 0 j j) ⟨M.t.put (some (.row tt (.head 0) c)) M.next, M.next.succ, M.floor⟩ (hH.cons (hwf.memLe_new _) (.inr ⟨M.next, .inl rfl, hc, hwf.own_new _⟩) fun b hb => by
  simp only [Ent.fp, blk, List.mem_cons, List.not_mem_nil, or_false] at hb
  subst hb
  exact Nat.le_refl _)
 refine za1.step (M1 := ⟨M.t.put (some (.row tt (.head 0) c)) M.next, M.next.succ, M.next.num⟩) (s := .slice M.next 0 j j) ?_ (z89 hd) (fun hw => hw.anew _) h' hwf
 have hx' : exec P (lift M) (treeOf e) ⟨d, op, ty, pos, af, g⟩ = .val (.slice M.next 0 j j) ⟨M.t.put (some (.row tt (.head 0) c)) M.next, M.next.succ, M.next.num⟩ := hx
 exact .inr ⟨hw, .inl hx'⟩
theorem za1.callP {f : FuncId} {xs : List SV} {s0 : SV} (hw : z8e all (treeOf e) ⟨d, op, ty, pos, af, g⟩ = some true) (hx : execO P (lift M) (treeOf e) op = .enter f xs (lift M)) (hd : okD d n = true) (hc : CallsM P f xs (lift M) fun s M' => s = s0 ∧ M' = lift M)
  (h : za1 P n all C r (putE d s0 e) M) : za1 P n all C (⟨d, op, ty, pos, af, g⟩ :: r) e M := fun hwf => by
 obtain ⟨s, M', h1, h2, rfl, rfl⟩ := hc (WF.lift hwf)
 refine za1.step (M1 := lift M) (s := s) ?_ (z89 hd) (fun hw => .refl hw) h hwf
 exact .inr ⟨hw, .inr ⟨f, xs, lift M, hx, h1⟩⟩
theorem za1.callN {f : FuncId} {xs : List SV} {R : SV → Mem → Prop} (hw : z8e all (treeOf e) ⟨d, op, ty, pos, af, g⟩ = some true) (hx : execO P (lift M) (treeOf e) op = .enter f xs (lift M)) (hd : okD d n = true) (hc : CallsM P f xs (lift M) R)
  (h : ∀ s M', R s M' → Aft (lift M) M' → za1 P n all C r (putE d s e) (unlift M.floor M')) : za1 P n all C (⟨d, op, ty, pos, af, g⟩ :: r) e M := fun hwf => by
 obtain ⟨s, M', h1, h2, h3⟩ := hc (WF.lift hwf)
 refine za1.step (M1 := M') (s := s) ?_ (z89 hd) (fun hw => Aft.unlift hw h2) (h s M' h3 h2) hwf
 exact .inr ⟨hw, .inr ⟨f, xs, lift M, hx, h1⟩⟩
theorem zb3.step {o : Oper} {M1 : Mem} {e1 : Env} {s : SV} (hv : zbi P all M (treeOf e) o s M1) (hp : zam (treeOf e) n o.dst s = some (treeOf e1)) (hw : Aft M M1) (hst : z8g P all M1 (treeOf e1) L = true)
  (h : zb3 P fx n Q all L k r e1 M1) : zb3 P fx n Q all L k (o :: r) e M := fun _ => by
 obtain ⟨e', M', h1, h2, h3⟩ := h hw.wf
 exact ⟨e', M', .cons hv hp hst h1, hw.trans h2, h3⟩
theorem zb3.callX {f : FuncId} {xs : List SV} {R : SV → Mem → Prop} (hw : z8e all (treeOf e) ⟨d, op, ty, pos, af, g⟩ = some true) (hd : okD d n = true) (hx : execO P M (treeOf e) op = .enter f xs M) (hc : CallsM P f xs M R)
  (h : ∀ v M', R v M' → z8g P all M' (treeOf (putE d v e)) L = true ∧ zb3 P fx n Q all L k r (putE d v e) M') : zb3 P fx n Q all L k (⟨d, op, ty, pos, af, g⟩ :: r) e M := fun hwf => by
 obtain ⟨s, M', h1, h2, h3⟩ := hc hwf
 obtain ⟨h4, h5⟩ := h s M' h3
 refine zb3.step (M1 := M') (s := s) ?_ (z89 hd) h2 h4 h5 hwf
 exact .inr ⟨hw, .inr ⟨f, xs, M, hx, h1⟩⟩
theorem zb3.val (hw : z8e all (treeOf e) ⟨d, op, ty, pos, af, g⟩ = some true) (hx : execO P M (treeOf e) op = .val s M) (hd : okD d n = true) (hst : z8g P all M (treeOf (putE d s e)) L = true)
  (h : zb3 P fx n Q all L k r (putE d s e) M) : zb3 P fx n Q all L k (⟨d, op, ty, pos, af, g⟩ :: r) e M := fun hwf => by
 refine zb3.step (M1 := M) (s := s) ?_ (z89 hd) (.refl hwf) hst h hwf
 have hx' : exec P M (treeOf e) ⟨d, op, ty, pos, af, g⟩ = .val s M := hx
 exact .inr ⟨hw, .inl hx'⟩
theorem zb3.no (hw : z8e all (treeOf e) ⟨d, op, ty, pos, af, g⟩ = some false) (hd : okD d n = true) (hst : z8g P all M (treeOf (putE d (.tuple []) e)) L = true)
  (h : zb3 P fx n Q all L k r (putE d (.tuple []) e) M) : zb3 P fx n Q all L k (⟨d, op, ty, pos, af, g⟩ :: r) e M := fun hwf => by
 refine zb3.step (M1 := M) (s := .tuple []) ?_ (z89 hd) (.refl hwf) hst h hwf
 exact .inl ⟨hw, rfl, rfl⟩
theorem zb3.opX {R : SV → Mem → Prop} (hw : z8e all (treeOf e) ⟨d, op, ty, pos, af, g⟩ = some true) (hd : okD d n = true) (hx : ExG P M e op R)
  (h : ∀ v M', R v M' → z8g P all M' (treeOf (putE d v e)) L = true ∧ zb3 P fx n Q all L k r (putE d v e) M') : zb3 P fx n Q all L k (⟨d, op, ty, pos, af, g⟩ :: r) e M := fun hwf => by
 obtain ⟨v, M1, h1, h2, h3⟩ := hx hwf
 obtain ⟨h4, h5⟩ := h v M1 h3
 refine zb3.step (M1 := M1) (s := v) ?_ (z89 hd) h2 h4 h5 hwf
 have hx' : exec P M (treeOf e) ⟨d, op, ty, pos, af, g⟩ = .val v M1 := h1
 exact .inr ⟨hw, .inl hx'⟩
end
end
end Go.Ev
namespace Go.Ev
open Go.RowKit
variable {P : Program}
def zj5 (l : List UInt8) : List Int := l.map fun b => (b.toNat : Int)
theorem zmr (l : List UInt8) : (zj5 l).length = l.length := by simp [zj5]
def byt (l : List UInt8) : Option (List Int) := bif Nat.ble l.length 1073741824 then some (zj5 l) else none
theorem zq9 {l : List UInt8} {r : List Int} (h : byt l = some r) : r = zj5 l ∧ l.length ≤ 1073741824 := by
 unfold byt at h
 cases hb : Nat.ble l.length 1073741824 with
 | false => rw [hb] at h; simp at h
 | true =>
  rw [hb] at h
  exact ⟨(Option.some.inj h).symm, Nat.le_of_ble_eq_true hb⟩
section
variable {e : Env} {M : Mem} {x : Operand} {s d : TypeId} {F : Rd} {H : List Ent} {fx : Fx} {n : Nat} {Q : SV → Mem → Prop} {k : List SItem}
theorem ExG.bytes {et : TypeId} {l : List UInt8} {r : List Int} (h : ar e x = some (.str l)) (hu : uvK P s d = none) (hk : cvK P s d = some (.bytes et)) (hl : byt l = some r) (hH : Has F M H) :
  ExG P M e (.convert s d x) fun v M' => ∃ b, v = .ope b 0 r.length 1 ∧ Has F M' (.obj b (.row et .mark (zfh l)) :: H) := by
 obtain ⟨rfl, hle⟩ := zq9 hl
 refine ExG.new (v := fun b => .ope b 0 (zj5 l).length 1) ?_ hH
 show zo0 P M (treeOf e) s d x = _
 unfold zo0
 rw [z8j h]
 show z9o P s d (.str l) M = _
 unfold z9o
 have hb : Nat.ble (zno l) 1073741824 = true := by rw [zc9]; exact Nat.ble_eq_true_of_le hle
 simp only [hu, zbu, hk, hb]
 rw [zc9, zmr]
end
section
variable {P : Program}
theorem AtM.row {m : Map} {j : Nat} {r : ARow} (h : AtM m j [argB r]) : ∀ x, r = some x → m (Pos.ofNat j) = some x.1 := fun x hx => h 0 (false, x.1, x.2) (by rw [hx]; rfl)
end
theorem memB_rel3 {W : World} {l : List BRow} (h : ∀ (j : Nat) (x : Bool × Pl × List SV), l[j]? = some (some x) → x.2.1.block < W.heap.size ∧ RowRel (mapB l) x.2.1 none .lost x.2.2 W.heap[x.2.1.block]? ∧ (x.1 = true → x.2.1.block = j ∧ x.2.1.shift = 0 ∧ x.2.1.size = x.2.2.length)) : MRel W.heap.size (mapB l) (memB l) W := by
 have hown : ∀ x, (zrm x).own = false := fun x => by unfold zrm; cases x.1 <;> rfl
 refine ⟨fun b o p hb hp => ?_, fun b b' o o' p p' hb hb' how _ _ _ => ?_, fun b hb => ?_, fun b p hp => ?_, fun b o p hb ho _ => ?_, Nat.le_refl _, fun b c hb => ?_, ?_⟩
 ·obtain ⟨x, hx, rfl⟩ := zcv hb
  obtain ⟨y, hy, rfl⟩ := zid hp
  rw [hx] at hy
  simp only [Option.some.injEq] at hy
  subst hy
  have := (h _ _ hx).2.1
  unfold zrm
  cases x.1 <;> exact this
 ·obtain ⟨x, _, rfl⟩ := zcv hb
  obtain ⟨x', _, rfl⟩ := zcv hb'
  rcases how with h | h
  ·rw [hown] at h; simp at h
  ·rw [hown] at h; simp at h
 ·have hb' : (Pos.ofNat l.length).num ≤ b.num := hb
  rw [Pos.num_ofNat] at hb'
  constructor
  ·cases hm : mapB l b with
   | none => rfl
   | some p =>
    obtain ⟨x, hx, _⟩ := zid hm
    have := (List.getElem?_eq_some_iff.1 hx).1
    omega
  ·cases hm : (memB l).t.get b with
   | none => rfl
   | some o =>
    obtain ⟨x, hx, _⟩ := zcv hm
    have := (List.getElem?_eq_some_iff.1 hx).1
    omega
 ·obtain ⟨x, hx, rfl⟩ := zid hp
  exact (h _ _ hx).1
 ·obtain ⟨x, _, rfl⟩ := zcv hb
  rw [hown] at ho; simp at ho
 ·obtain ⟨x, hx, hxo⟩ := zcv hb
  have hx1 : x.1 = true ∧ x.2.2 = c := by
   unfold zrm at hxo
   cases h1 : x.1 with
   | false => rw [h1] at hxo; simp at hxo
   | true => rw [h1] at hxo; simp at hxo; exact ⟨rfl, hxo.symm⟩
  obtain ⟨_, _, h3⟩ := h _ _ hx
  obtain ⟨g1, g2, g3⟩ := h3 hx1.1
  refine ⟨x.2.1.size, ?_, by rw [g3, hx1.2]⟩
  unfold mapB
  rw [hx]
  simp only [Option.some.injEq]
  obtain ⟨xf, ⟨xb, xs, xz⟩, xc⟩ := x
  simp only at g1 g2
  rw [g1, g2]
 ·show l.length + 1 ≤ (Pos.ofNat l.length).num
  rw [Pos.num_ofNat]; exact Nat.le_refl _
end Go.Ev
