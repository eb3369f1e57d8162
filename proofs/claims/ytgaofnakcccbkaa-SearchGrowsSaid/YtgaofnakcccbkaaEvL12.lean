/- A part of the small machine. -/
import Derived.Test.YtgaofnakcccbkaaEvL11
set_option linter.unusedVariables false
/- The first operations of a region, free of order, before others that follow in their order. -/
namespace Go.Ev
open Go.RowKit
variable {P : Program}

section
variable {B : Nat} {n N : Nat} {all : Array Oper} {Ms : Nat → Mem} {σs : Nat → Tree SV} {ss : Nat → SV} {m0 : Map} {w0 : World}

/-- The first N operations of a region, where the others come behind all before them: the model then stands before the others, in their order. -/
theorem pure_headR (hmix : P.follows .mixedOrders = true) {all : Array Oper} (hok : PureOK all) {N : Nat} (hNs : N ≤ all.size) (htail : ∀ i, N ≤ i → i < all.size → ∀ k, k < i → Before all k i) {m : Map} {M : Mem} {w : World} {σ σ1 : Tree SV} {tm : Array Value} {M1 : Mem} {rest : List Nat}
    (hrun : PureR P n all (all.toList.take N) σ M σ1 M1)
    (hr : MRel B m M w) (hT : TRel m σ tm) (hn : tm.size = n) (topo : Topo all [] rest) (cx : Cx) (todo : List Item) (fs : List Frame) :
    ∃ m' w' tm', Steps P (lone (mkF cx tm (.inRegion all rest :: todo)) fs w) (lone (mkF cx tm' (.inRegion all ((List.range all.size).drop N) :: todo)) fs w') ∧ Stepped B m M w m' (unlift M.floor M1) w' ∧ TRel m' σ1 tm' ∧ tm'.size = n := by
  obtain ⟨Ms, σs, ss, ht, rfl, rfl, rfl, rfl⟩ := pureR_trace hNs (all.toList.take N) 0 σ M (Nat.zero_le _) rfl hrun
  have hs := symR (P := P) hmix hNs ht hr hT hn
  have hext0 : ∀ b p, m b = some p → b.num < (Ms 0).next.num := by
    intro b p hb
    apply Classical.byContradiction
    intro e
    rw [(hr.fresh b (by omega)).1] at hb
    simp at hb
  have hcut : ∀ i, i ≤ N → cut m (Ms i).next.num = m := by
    intro i hi
    funext b
    unfold cut
    split
    · rfl
    · rename_i hb
      have := hs.next 0 i (by omega) hi
      exact ((hr.fresh b (by omega)).1).symm
  have h0 : Inv B all N n Ms σs ss m w m w tm [] := by
    refine ⟨fun i hi => ?_, hn, by simp, fun t s hts _ => by rw [hcut 0 (Nat.zero_le _)]; exact hT t s hts, fun j hj _ b h1 _ => ?_, fun _ _ => rfl, Below.refl _ _, fun _ _ _ => rfl, fun k hk ho => ?_, fun b p hb hp _ => absurd hp (by rw [(hr.fresh b hb).1]; simp), by simp, by simp⟩
    · rw [hcut i hi]
      have hnx := hs.next 0 i (by omega) hi
      have hg : ∀ b p, m b = some p → (Ms i).t.get b = (Ms 0).t.get b := fun b p hb => hs.old 0 i (by omega) hi b (hext0 b p hb)
      refine ⟨fun b o p hb hp => hr.objs b o p (by rw [← hg b p hp]; exact hb) hp, fun b b' o o' p p' h1 h2 how h3 h4 he => hr.inj b b' o o' p p' (by rw [← hg b p h3]; exact h1) (by rw [← hg b' p' h4]; exact h2) how h3 h4 he,
        fun b hb => ⟨(hr.fresh b (by omega)).1, hs.none i hi b hb⟩, hr.bound, fun b o p hb hown hp => hr.low b o p (by rw [← hg b p hp]; exact hb) hown hp, hr.base, fun b c hc => hr.glob b c (hs.fixes i hi b c hc), hs.flo i hi⟩
    · have := hs.next 0 j (by omega) (by omega)
      exact (hr.fresh b (by omega)).1
    · rw [hcut _ (Nat.le_refl _)] at ho
      obtain ⟨c, x, q, hx, hxo, hq, hqe⟩ := ho
      exact ⟨c, x, q, by rw [← hs.old 0 N (by omega) (Nat.le_refl _) c (hext0 c q hq)]; exact hx, hxo, hq, hqe⟩
  have key : ∀ (rest : List Nat) (S : List Nat) (m1 : Map) (w1 : World) (tm1 : Array Value), Inv B all N n Ms σs ss m w m1 w1 tm1 S → Topo all S rest →
      ∃ m' w' tm' S' rest', Steps P (lone (mkF cx tm1 (.inRegion all rest :: todo)) fs w1) (lone (mkF cx tm' (.inRegion all rest' :: todo)) fs w') ∧ Inv B all N n Ms σs ss m w m' w' tm' S' ∧ Topo all S' rest' ∧ ∀ i, i < N → i ∈ S' := by
    intro rest
    induction rest with
    | nil =>
      intro S m1 w1 tm1 h tp
      cases tp with
      | nil hall => exact ⟨m1, w1, tm1, S, [], .refl _ _, h, .nil hall, fun i hi => hall i (by omega)⟩
    | cons j rest ih =>
      intro S m1 w1 tm1 h tp
      by_cases hj : j < N
      · obtain ⟨m2, w2, tm2, hs2, h2⟩ := h.stepR (P := P) hmix hok hNs ht hs tp hj cx todo fs
        cases tp with
        | cons _ _ _ tp' =>
          obtain ⟨m3, w3, tm3, S3, r3, hs3, h3, tp3, hall⟩ := ih _ _ _ _ h2 tp'
          exact ⟨m3, w3, tm3, S3, r3, hs2.trans hs3, h3, tp3, hall⟩
      · refine ⟨m1, w1, tm1, S, j :: rest, .refl _ _, h, tp, fun i hi => ?_⟩
        cases tp with
        | cons hjS ho hp _ =>
          exact before_mem ho hp h.closed (htail j (by omega) (Array.getElem?_eq_some_iff.1 ho).1 i (by omega))
  obtain ⟨m1, w1, tm1, S, rest1, hsteps, h, tp1, hall⟩ := key rest [] m w tm h0 topo
  have hN := hs.next 0 N (Nat.zero_le _) (Nat.le_refl _)
  have hrN := h.rel N (Nat.le_refl _)
  have hst1 : Stepped B m (Ms 0) w (cut m1 (Ms N).next.num) (unlift (Ms 0).floor (Ms N)) w1 := by
    refine ⟨⟨hrN.objs, hrN.inj, hrN.fresh, hrN.bound, hrN.low, hrN.base, hrN.glob, ?_⟩, fun b hb => ?_, fun b hb _ => hs.old 0 N (Nat.zero_le _) (Nat.le_refl _) b hb, hN, h.below, h.frame, h.born, fun b hb => ?_, rfl, fun b c hc => hs.fixes N (Nat.le_refl _) b c hc, fun b p hb hp hlt => h.news b p hb (cut_some hp).2 hlt⟩
    · show (Ms 0).floor ≤ (Ms N).next.num
      have := hr.flo
      omega
    · rw [cut_lt (by omega)]; exact h.same b hb
    · have := hr.flo
      exact hs.old 0 N (Nat.zero_le _) (Nat.le_refl _) b (by omega)
  have hT1 : ∀ t s, (σs N).get (Pos.ofNat t) = some s → (∀ (k : Nat) (o : Oper), k < N → k ∉ S → all[k]? = some o → o.dst ≠ some t) → ∃ v, tm1[t]? = some v ∧ conc (cut m1 (Ms N).next.num) s = some v := by
    intro t s hts hcond
    by_cases hex : ∃ (i : Nat) (o' : Oper), i < N ∧ all[i]? = some o' ∧ o'.dst = some t
    · obtain ⟨i, o', hi, h3, h4⟩ := hex
      have hiS : i ∈ S := by
        apply Classical.byContradiction
        intro e
        exact hcond i o' hi e h3 h4
      rw [(sig_ownR hok hNs ht h3 h4 N hi (Nat.le_refl _)).1] at hts
      cases hts
      obtain ⟨v, g1, g2⟩ := h.fin i hiS o' t h3 h4
      exact ⟨v, g1, conc_ext (cut_ext (hs.next (i + 1) N (by omega) (Nat.le_refl _))) _ _ g2⟩
    · have hno : ∀ (i : Nat) (o' : Oper), i < N → all[i]? = some o' → o'.dst ≠ some t := fun i o' hi h3 h4 => hex ⟨i, o', hi, h3, h4⟩
      rw [sig_otherR hNs ht N (Nat.le_refl _) t fun i o' hi h3 => hno i o' hi h3] at hts
      obtain ⟨v, g1, g2⟩ := h.old t s hts hno
      exact ⟨v, g1, conc_ext (cut_ext hN) _ _ g2⟩
  have hrest : rest1 = (List.range all.size).drop N := topo_seq rest1 hNs htail (fun k => ⟨h.sub k, hall k⟩) h.closed tp1
  subst hrest
  exact ⟨_, w1, tm1, hsteps, hst1, fun t s hts => hT1 t s hts fun k o hk hkS _ => absurd (hall k hk) hkS, h.size⟩

end
section
variable {fx : Fx} {n : Nat} {Q : SV → Mem → Prop} {e : Env} {k : List SItem} {M : Mem}
theorem part_agg {t : TypeId} {l : List SV} {off z : Nat} {p : SV} (h : aggSize P t = some (some z)) (hs : (match Nat.ble (Nat.add off z) (len l) with | true => some (SV.agg (tk z (dp off l))) | false => none) = some p) : partS P t l off = some p := by
  unfold partS
  simp only [h]
  exact hs
/-- A region that draws, by its head: the others are then carried out one by one. -/
theorem Run.headG {i N : Nat} {ops : Array Oper} {r tl : List Oper} (hp : seqP ops = some N) (hr : ops.toList.take N = r) (htl : ops.toList.drop N = tl) (h : PureG P fx n Q ops (.ops ops tl :: k) [] r e M) : Run P fx n Q e (.code (.region i ops true) :: k) M := by
  subst hr; subst htl
  intro hw
  obtain ⟨e1, M1, h1, h2, h3⟩ := h hw
  obtain ⟨e2, M2, h4, h5, h6⟩ := h3 h2.wf
  obtain ⟨s, M', hq', ha2, hto⟩ := h6 (h2.trans h5).wf
  refine ⟨s, M', hq', (h2.trans h5).trans ha2, ?_⟩
  intro hmix B m w fr frs cs0 hr hf hc
  obtain ⟨cc, tm, todo, rfl, hcx, ht, hn, hk⟩ := hf
  cases hk with
  | cons hi hk =>
  rename_i it todo
  cases it <;> simp only [IRel] at hi
  subst hi
  obtain ⟨hfw, hok, hNs, htail⟩ := seqP_ok hp
  have hs0 := stepR_region_draw (P := P) (b := mkF cc tm []) (a := ⟨tm, cc.ds⟩) (k := todo) (cs := frs ++ cs0) (w := w) (ops := ops) (id := i)
  rw [hmix] at hs0
  have hr1 : MRel B m M { w with drawn := w.drawn + 1 } := hr.drew rfl
  obtain ⟨m', w', tm', hs, hst, ht', hn'⟩ := pure_headR (P := P) hmix hok hNs htail h1 hr1 ht hn (schedule_topo hfw _) cc todo (frs ++ cs0)
  have h4' := h4
  generalize he2 : treeOf e2 = τ at h4'
  cases h4'
  have hst' : Stepped B m M w m' (unlift M.floor M1) w' := ⟨hst.rel, hst.same, hst.keep, hst.next, ⟨hst.below.os, hst.below.tape, hst.below.output, hst.below.size, hst.below.block⟩, hst.frame, hst.born, hst.under, hst.floor, hst.fixes, hst.news⟩
  have hext := hst'.ext hr
  obtain ⟨fr2, w2, m2, x, g1, g2, g3, g4, g5⟩ := hto hmix B m' w' (mkF cc tm' (.inRegion ops ((List.range ops.size).drop N) :: todo)) frs cs0 hst'.rel ⟨cc, tm', _, rfl, hcx.ext hext, by rw [he2]; exact ht', hn', .cons ⟨rfl, N, rfl, rfl⟩ (All2.mono (fun _ _ => IRel.ext hext) hk)⟩ (all2_ext hext hc)
  exact ⟨fr2, w2, m2, x, (Steps.head hs0 hs).trans g1, hst'.trans g2, g3, g4, g5⟩
end
end Go.Ev

