/- A part of the small machine. -/
import Derived.Test.YtmdeiglnjimlnaaEvL11
import Derived.Deep.Slices
set_option linter.unusedVariables false
/- The first operations of a region, free of order, before others that follow in their order. -/
namespace Go.Ev
open Go.RowKit
variable {P : Program}

section
variable {B : Nat} {n N : Nat} {all : Array Oper} {Ms : Nat → Mem} {σs : Nat → Tree SV} {ss : Nat → SV} {m0 : Map} {w0 : World}

/-- The first N operations of a region, where the others come behind all before them: the model then stands before the others, in their order. -/
theorem pure_headR (hmix : P.follows .mixedOrders = true) {all : Array Oper} (hok : PureOK all) {N : Nat} (hNs : N ≤ all.size) (htail : ∀ i, N ≤ i → i < all.size → ∀ k, k < i → Before all k i) {m : Map} {M : Mem} {w : World} {σ σ1 : Tree SV} {tm : Array Value} {M1 : Mem} {rest : List Nat}
    (hrun : PureR P n all (all.toList.take N) σ M σ1 M1)
    (hr : MRel B m M w) (hT : TRel m σ tm) (hn : tm.size = n) (topo : Topo all [] rest) (cx : Cx) (todo : List Item) (fs : List Frame) :
    ∃ m' w' tm', Steps P (lone (mkF cx tm (.inRegion all rest :: todo)) fs w) (lone (mkF cx tm' (.inRegion all ((List.range all.size).drop N) :: todo)) fs w') ∧ Stepped B m M w m' (unlift M.floor M1) w' ∧ TRel m' σ1 tm' ∧ tm'.size = n := by
  obtain ⟨Ms, σs, ss, ht, rfl, rfl, rfl, rfl⟩ := pureR_trace hNs (all.toList.take N) 0 σ M (Nat.zero_le _) rfl hrun
  have hs := symR (P := P) hmix hNs ht hr hT hn
  have hext0 : ∀ b p, m b = some p → b.num < (Ms 0).next.num := by
    intro b p hb
    apply Classical.byContradiction
    intro e
    rw [(hr.fresh b (by omega)).1] at hb
    simp at hb
  have hcut : ∀ i, i ≤ N → cut m (Ms i).next.num = m := by
    intro i hi
    funext b
    unfold cut
    split
    · rfl
    · rename_i hb
      have := hs.next 0 i (by omega) hi
      exact ((hr.fresh b (by omega)).1).symm
  have h0 : Inv B all N n Ms σs ss m w m w tm [] := by
    refine ⟨fun i hi => ?_, hn, by simp, fun t s hts _ => by rw [hcut 0 (Nat.zero_le _)]; exact hT t s hts, fun j hj _ b h1 _ => ?_, fun _ _ => rfl, Below.refl _ _, fun _ _ _ => rfl, fun k hk ho => ?_, fun b p hb hp _ => absurd hp (by rw [(hr.fresh b hb).1]; simp), by simp, by simp⟩
    · rw [hcut i hi]
      have hnx := hs.next 0 i (by omega) hi
      have hg : ∀ b p, m b = some p → (Ms i).t.get b = (Ms 0).t.get b := fun b p hb => hs.old 0 i (by omega) hi b (hext0 b p hb)
      refine ⟨fun b o p hb hp => hr.objs b o p (by rw [← hg b p hp]; exact hb) hp, fun b b' o o' p p' h1 h2 how h3 h4 he => hr.inj b b' o o' p p' (by rw [← hg b p h3]; exact h1) (by rw [← hg b' p' h4]; exact h2) how h3 h4 he,
        fun b hb => ⟨(hr.fresh b (by omega)).1, hs.none i hi b hb⟩, hr.bound, fun b o p hb hown hp => hr.low b o p (by rw [← hg b p hp]; exact hb) hown hp, hr.base, fun b c hc => hr.glob b c (hs.fixes i hi b c hc), hs.flo i hi⟩
    · have := hs.next 0 j (by omega) (by omega)
      exact (hr.fresh b (by omega)).1
    · rw [hcut _ (Nat.le_refl _)] at ho
      obtain ⟨c, x, q, hx, hxo, hq, hqe⟩ := ho
      exact ⟨c, x, q, by rw [← hs.old 0 N (by omega) (Nat.le_refl _) c (hext0 c q hq)]; exact hx, hxo, hq, hqe⟩
  have key : ∀ (rest : List Nat) (S : List Nat) (m1 : Map) (w1 : World) (tm1 : Array Value), Inv B all N n Ms σs ss m w m1 w1 tm1 S → Topo all S rest →
      ∃ m' w' tm' S' rest', Steps P (lone (mkF cx tm1 (.inRegion all rest :: todo)) fs w1) (lone (mkF cx tm' (.inRegion all rest' :: todo)) fs w') ∧ Inv B all N n Ms σs ss m w m' w' tm' S' ∧ Topo all S' rest' ∧ ∀ i, i < N → i ∈ S' := by
    intro rest
    induction rest with
    | nil =>
      intro S m1 w1 tm1 h tp
      cases tp with
      | nil hall => exact ⟨m1, w1, tm1, S, [], .refl _ _, h, .nil hall, fun i hi => hall i (by omega)⟩
    | cons j rest ih =>
      intro S m1 w1 tm1 h tp
      by_cases hj : j < N
      · obtain ⟨m2, w2, tm2, hs2, h2⟩ := h.stepR (P := P) hmix hok hNs ht hs tp hj cx todo fs
        cases tp with
        | cons _ _ _ tp' =>
          obtain ⟨m3, w3, tm3, S3, r3, hs3, h3, tp3, hall⟩ := ih _ _ _ _ h2 tp'
          exact ⟨m3, w3, tm3, S3, r3, hs2.trans hs3, h3, tp3, hall⟩
      · refine ⟨m1, w1, tm1, S, j :: rest, .refl _ _, h, tp, fun i hi => ?_⟩
        cases tp with
        | cons hjS ho hp _ =>
          exact before_mem ho hp h.closed (htail j (by omega) (Array.getElem?_eq_some_iff.1 ho).1 i (by omega))
  obtain ⟨m1, w1, tm1, S, rest1, hsteps, h, tp1, hall⟩ := key rest [] m w tm h0 topo
  have hN := hs.next 0 N (Nat.zero_le _) (Nat.le_refl _)
  have hrN := h.rel N (Nat.le_refl _)
  have hst1 : Stepped B m (Ms 0) w (cut m1 (Ms N).next.num) (unlift (Ms 0).floor (Ms N)) w1 := by
    refine ⟨⟨hrN.objs, hrN.inj, hrN.fresh, hrN.bound, hrN.low, hrN.base, hrN.glob, ?_⟩, fun b hb => ?_, fun b hb _ => hs.old 0 N (Nat.zero_le _) (Nat.le_refl _) b hb, hN, h.below, h.frame, h.born, fun b hb => ?_, rfl, fun b c hc => hs.fixes N (Nat.le_refl _) b c hc, fun b p hb hp hlt => h.news b p hb (cut_some hp).2 hlt⟩
    · show (Ms 0).floor ≤ (Ms N).next.num
      have := hr.flo
      omega
    · rw [cut_lt (by omega)]; exact h.same b hb
    · have := hr.flo
      exact hs.old 0 N (Nat.zero_le _) (Nat.le_refl _) b (by omega)
  have hT1 : ∀ t s, (σs N).get (Pos.ofNat t) = some s → (∀ (k : Nat) (o : Oper), k < N → k ∉ S → all[k]? = some o → o.dst ≠ some t) → ∃ v, tm1[t]? = some v ∧ conc (cut m1 (Ms N).next.num) s = some v := by
    intro t s hts hcond
    by_cases hex : ∃ (i : Nat) (o' : Oper), i < N ∧ all[i]? = some o' ∧ o'.dst = some t
    · obtain ⟨i, o', hi, h3, h4⟩ := hex
      have hiS : i ∈ S := by
        apply Classical.byContradiction
        intro e
        exact hcond i o' hi e h3 h4
      rw [(sig_ownR hok hNs ht h3 h4 N hi (Nat.le_refl _)).1] at hts
      cases hts
      obtain ⟨v, g1, g2⟩ := h.fin i hiS o' t h3 h4
      exact ⟨v, g1, conc_ext (cut_ext (hs.next (i + 1) N (by omega) (Nat.le_refl _))) _ _ g2⟩
    · have hno : ∀ (i : Nat) (o' : Oper), i < N → all[i]? = some o' → o'.dst ≠ some t := fun i o' hi h3 h4 => hex ⟨i, o', hi, h3, h4⟩
      rw [sig_otherR hNs ht N (Nat.le_refl _) t fun i o' hi h3 => hno i o' hi h3] at hts
      obtain ⟨v, g1, g2⟩ := h.old t s hts hno
      exact ⟨v, g1, conc_ext (cut_ext hN) _ _ g2⟩
  have hrest : rest1 = (List.range all.size).drop N := topo_seq rest1 hNs htail (fun k => ⟨h.sub k, hall k⟩) h.closed tp1
  subst hrest
  exact ⟨_, w1, tm1, hsteps, hst1, fun t s hts => hT1 t s hts fun k o hk hkS _ => absurd (hall k hk) hkS, h.size⟩

end
section
variable {fx : Fx} {n : Nat} {Q : SV → Mem → Prop} {e : Env} {k : List SItem} {M : Mem}
theorem part_agg {t : TypeId} {l : List SV} {off z : Nat} {p : SV} (h : aggSize P t = some (some z)) (hs : (match Nat.ble (Nat.add off z) (len l) with | true => some (SV.agg (tk z (dp off l))) | false => none) = some p) : partS P t l off = some p := by
  unfold partS
  simp only [h]
  exact hs
/-- A region that draws, by its head: the others are then carried out one by one. -/
theorem Run.headG {i N : Nat} {ops : Array Oper} {r tl : List Oper} (hp : seqP ops = some N) (hr : ops.toList.take N = r) (htl : ops.toList.drop N = tl) (h : PureG P fx n Q ops (.ops ops tl :: k) [] r e M) : Run P fx n Q e (.code (.region i ops true) :: k) M := by
  subst hr; subst htl
  intro hw
  obtain ⟨e1, M1, h1, h2, h3⟩ := h hw
  obtain ⟨e2, M2, h4, h5, h6⟩ := h3 h2.wf
  obtain ⟨s, M', hq', ha2, hto⟩ := h6 (h2.trans h5).wf
  refine ⟨s, M', hq', (h2.trans h5).trans ha2, ?_⟩
  intro hmix B m w fr frs cs0 hr hf hc
  obtain ⟨cc, tm, todo, rfl, hcx, ht, hn, hk⟩ := hf
  cases hk with
  | cons hi hk =>
  rename_i it todo
  cases it <;> simp only [IRel] at hi
  subst hi
  obtain ⟨hfw, hok, hNs, htail⟩ := seqP_ok hp
  have hs0 := stepR_region_draw (P := P) (b := mkF cc tm []) (a := ⟨tm, cc.ds⟩) (k := todo) (cs := frs ++ cs0) (w := w) (ops := ops) (id := i)
  rw [hmix] at hs0
  have hr1 : MRel B m M { w with drawn := w.drawn + 1 } := hr.drew rfl
  obtain ⟨m', w', tm', hs, hst, ht', hn'⟩ := pure_headR (P := P) hmix hok hNs htail h1 hr1 ht hn (schedule_topo hfw _) cc todo (frs ++ cs0)
  have h4' := h4
  generalize he2 : treeOf e2 = τ at h4'
  cases h4'
  have hst' : Stepped B m M w m' (unlift M.floor M1) w' := ⟨hst.rel, hst.same, hst.keep, hst.next, ⟨hst.below.os, hst.below.tape, hst.below.output, hst.below.size, hst.below.block⟩, hst.frame, hst.born, hst.under, hst.floor, hst.fixes, hst.news⟩
  have hext := hst'.ext hr
  obtain ⟨fr2, w2, m2, x, g1, g2, g3, g4, g5⟩ := hto hmix B m' w' (mkF cc tm' (.inRegion ops ((List.range ops.size).drop N) :: todo)) frs cs0 hst'.rel ⟨cc, tm', _, rfl, hcx.ext hext, by rw [he2]; exact ht', hn', .cons ⟨rfl, N, rfl, rfl⟩ (All2.mono (fun _ _ => IRel.ext hext) hk)⟩ (all2_ext hext hc)
  exact ⟨fr2, w2, m2, x, (Steps.head hs0 hs).trans g1, hst'.trans g2, g3, g4, g5⟩
end
end Go.Ev

/- Arguments that are slices of structs that hold slices: rows that are only read, of which the first refers to the others. -/
namespace Go.Ev
open Go.RowKit
variable {P : Program}

/-- A slice that lies within an element. -/
structure InnerArg {α : Type} (W : World) (z : Nat) (enc : α → List SV) (v : Value) (l : List α) (r : ARow) (s : Nat → SV) : Prop where
  row : ∀ x, r = some x → x.1.block < W.heap.size ∧ ∀ m, RowRel m x.1 none .lost x.2 W.heap[x.1.block]?
  val : ∀ (m : Map) (j : Nat), (∀ x, r = some x → m (Pos.ofNat j) = some x.1) → conc m (s j) = some v
  slc : ∀ (f : Rd) (j : Nat), (∀ x, r = some x → f (Pos.ofNat j) = some x.2) → Slc f z (FlatR enc) (s j) l
  len : l.length ≤ maxLen

theorem cell_lies {w : World} {a : Addr} {v : Value} (h : w.cell? a = some v) : a.spot = none ∧ ∃ c e fz, w.heap[a.block]? = some (.cells c e fz) ∧ a.off < c.size := by
  unfold World.cell? at h
  split at h
  · rename_i c e fz hobj
    split at h
    · simp at h
    · rename_i hs
      refine ⟨by simpa using hs, c, e, fz, hobj, ?_⟩
      apply Classical.byContradiction
      intro hn
      rw [Array.getElem?_eq_none (by omega)] at h
      simp at h
  · simp at h

theorem inner_arg {α : Type} {H : Type} {henc : TypeId × Value → H} {W : World} {held : Bool} {z : Nat} {enc : α → List SV} (hz : ∀ a, (enc a).length = z) (hz0 : 0 < z) {t e : TypeId} (hc : P.cellsOf e = z) (hin : Inhabited α)
    (ht : P.underlying t = some (.slice e)) {v : Value} {fuel : Nat} {x : DataW H × List MemPlace} (h : DataW.trod henc P W 0 (fun _ => true) held fuel t [v] = some x)
    (hread : ∀ n cs x, DataW.trod henc P W 0 (fun _ => true) held n e cs = some x → ∃ a : α, ∀ m, concs m (enc a) = some cs) :
    ∃ l r s, InnerArg W z enc v (l : List α) r s := by
  rcases Deep.open_slice ht h with ⟨hcs, _⟩ | ⟨a, len, cap, mm, n, D, Pl', hcs, _, hl, hm, hmm, _, hel⟩
  · simp only [List.cons.injEq, and_true] at hcs
    subst hcs
    exact ⟨[], none, fun _ => .nils, ⟨fun x hx => by simp at hx, fun m j _ => rfl, fun f j _ => .inl ⟨.inl rfl, rfl⟩, Nat.zero_le _⟩⟩
  · simp only [List.cons.injEq, and_true] at hcs
    subst hcs
    rw [if_pos rfl] at hmm
    subst hmm
    by_cases h0 : mm = 0
    · subst h0
      obtain rfl : len = 0 := by omega
      exact ⟨[], none, fun _ => .rawz a, ⟨fun x hx => by simp at hx, fun m j _ => rfl, fun f j _ => .inl ⟨.inr (.inr ⟨a, rfl⟩), rfl⟩, Nat.zero_le _⟩⟩
    · obtain ⟨cs0, hcells0, _⟩ := hel 0 (by omega)
      rw [hc] at hcells0
      obtain ⟨_, hlen0, hat0⟩ := World.cells?_some hcells0
      have hc0 := hat0 0 hz0
      obtain ⟨v0, hv0⟩ : ∃ v0, cs0[0]? = some v0 := ⟨cs0[0], List.getElem?_eq_getElem (by omega)⟩
      rw [hv0, Nat.zero_mul] at hc0
      have hadd0 : ((a.add 0).add 0) = a := by
        unfold Addr.add
        simp
      rw [hadd0] at hc0
      obtain ⟨hspot, c, e', fz, hobj, hoff'⟩ := cell_lies hc0
      obtain ⟨ab, ao, asp⟩ := a
      simp only at hspot hobj hoff'
      subst hspot
      have hoff : ao ≤ c.size := by omega
      have hlt : ab < W.heap.size := by
        apply Classical.byContradiction
        intro hn
        rw [Array.getElem?_eq_none (by omega)] at hobj
        simp at hobj
      obtain ⟨A, hA⟩ := Deep.choose_lt (α := α) (p := fun i a => ∀ m, concs m (enc a) = some ((c.toList.drop (ao + i * z)).take z)) (n := len) (fun i hi => by
        obtain ⟨cs', hcells, htr⟩ := hel i (by omega)
        obtain ⟨a, ha⟩ := hread _ _ _ htr
        refine ⟨a, fun m => ?_⟩
        rw [ha m]
        congr 1
        rw [hc] at hcells
        obtain ⟨_, hlen, hat⟩ := World.cells?_some hcells
        apply List.ext_getElem?
        intro j
        by_cases hj : j < z
        · have := hat j hj
          rw [← this, Deep.add_add]
          have hadd : (Addr.mk ab ao none).add (i * z + j) = ⟨ab, ao + (i * z + j), none⟩ := by
            unfold Addr.add
            split
            · rename_i h0; rw [h0]; rfl
            · rfl
          rw [hadd]
          simp only [World.cell?, hobj, Option.isSome_none]
          rw [List.getElem?_take_of_lt hj, List.getElem?_drop, Array.getElem?_toList, Nat.add_assoc]
          rfl
        · rw [List.getElem?_eq_none (by omega), List.getElem?_eq_none (by rw [List.length_take]; omega)])
      refine ⟨(List.range len).map A, some (⟨ab, ao, c.size⟩, ((List.range len).map A).flatMap enc), fun j => .slice (Pos.ofNat j) 0 len mm, ⟨?_, ?_, ?_, ?_⟩⟩
      · rintro x hx
        simp only [Option.some.injEq] at hx
        subst hx
        refine ⟨hlt, fun m => ⟨e', fz, c.toList.take ao, (c.toList.drop ao).take (len * z), (c.toList.drop ao).drop (len * z), ?_, trivial, ?_, ?_, ?_, fun t h => by simp at h⟩⟩
        · rw [List.take_append_drop, List.take_append_drop]
          exact hobj
        · simp; omega
        · simp only [List.length_take, List.length_drop, Array.length_toList]; omega
        · rw [List.flatMap_map]
          exact concs_blocks fun i hi => hA i hi m
      · intro m j hj
        have := hj _ rfl
        show (m (Pos.ofNat j)).map _ = _
        rw [this]
        simp
      · intro f j hj
        have := hj _ rfl
        refine .inr ⟨Pos.ofNat j, 0, _, .inl ⟨mm, by simpa using hl, by simp⟩, this, ?_, ?_⟩
        · rw [flatm_len hz]; omega
        · intro i a ha
          rw [Nat.zero_add]
          exact flat_at hz _ _ _ ha
      · simp; omega

/-- Rows that lie from j on. -/
def AtM (m : Map) (j : Nat) (l : List BRow) : Prop := ∀ (i : Nat) (y : Bool × Pl × List SV), l[i]? = some (some y) → m (Pos.ofNat (j + i)) = some y.2.1
def AtF (f : Rd) (j : Nat) (l : List BRow) : Prop := ∀ (i : Nat) (y : Bool × Pl × List SV), l[i]? = some (some y) → f (Pos.ofNat (j + i)) = some y.2.2

/-- An element that may hold a slice. -/
structure ElemArg {α : Type} (W : World) (z : Nat) (R : Rd → List SV → α → Prop) (Q : α → Prop) (cs : List Value) (a : α) (r : ARow) (s : Nat → List SV) : Prop where
  row : ∀ x, r = some x → x.1.block < W.heap.size ∧ ∀ m, RowRel m x.1 none .lost x.2 W.heap[x.1.block]?
  val : ∀ (m : Map) (j : Nat), (∀ x, r = some x → m (Pos.ofNat j) = some x.1) → concs m (s j) = some cs
  rep : ∀ (f : Rd) (j : Nat), (∀ x, r = some x → f (Pos.ofNat j) = some x.2) → R f (s j) a
  len : ∀ j, (s j).length = z
  ok : Q a

structure NestArg {α : Type} (W : World) (z : Nat) (R : Rd → List SV → α → Prop) (Q : α → Prop) (v : Value) (l : List α) (rows : Nat → List BRow) (s : Nat → SV) : Prop where
  row : ∀ (j i : Nat) (y : Bool × Pl × List SV), (rows j)[i]? = some (some y) → y.1 = false ∧ y.2.1.block < W.heap.size ∧ ∀ m, AtM m j (rows j) → RowRel m y.2.1 none .lost y.2.2 W.heap[y.2.1.block]?
  val : ∀ (m : Map) (j : Nat), AtM m j (rows j) → conc m (s j) = some v
  slc : ∀ (f : Rd) (j : Nat), AtF f j (rows j) → Slc f z (R f) (s j) l
  len : l.length ≤ maxLen
  all : ∀ a ∈ l, Q a

theorem flatm_len2 {z : Nat} {g : Nat → List SV} (hg : ∀ i, (g i).length = z) : ∀ n : Nat, ((List.range n).flatMap g).length = n * z
  | 0 => by simp
  | n + 1 => by
    rw [List.range_succ, List.flatMap_append, List.length_append, flatm_len2 hg n]
    simp [hg, Nat.succ_mul]
theorem flat_at2 {z : Nat} {g : Nat → List SV} (hg : ∀ i, (g i).length = z) : ∀ (n i : Nat), i < n → (((List.range n).flatMap g).drop (i * z)).take z = g i
  | 0, i, h => by omega
  | n + 1, i, h => by
    have hl := flatm_len2 hg n
    rw [List.range_succ, List.flatMap_append]
    simp only [List.flatMap_cons, List.flatMap_nil, List.append_nil]
    by_cases hi : i < n
    · have h2 : (i + 1) * z ≤ n * z := Nat.mul_le_mul_right z hi
      rw [Nat.succ_mul] at h2
      rw [List.drop_append_of_le_length (by omega), List.take_append_of_le_length (by rw [List.length_drop]; omega)]
      exact flat_at2 hg n i hi
    · obtain rfl : i = n := by omega
      rw [List.drop_append, List.drop_of_length_le (by omega), hl, Nat.sub_self, List.drop_zero, List.nil_append, List.take_of_length_le (by rw [hg]; exact Nat.le_refl _)]

theorem arg_nest {α : Type} {H : Type} {henc : TypeId × Value → H} {W : World} {base : Nat} {held : Bool} {z : Nat} {R : Rd → List SV → α → Prop} {Q : α → Prop} {t e : TypeId} (hc : P.cellsOf e = z) (hin : Inhabited α)
    (ht : P.underlying t = some (.slice e)) {v : Value} (hok : Cell.okWide P W .any base t v) {fuel : Nat} {x : DataW H × List MemPlace} (h : DataW.trod henc P W 0 (fun _ => true) held fuel t [v] = some x)
    (hread : ∀ n cs x, DataW.trod henc P W 0 (fun _ => true) held n e cs = some x → ∃ (a : α) (r : ARow) (s : Nat → List SV), ElemArg W z R Q cs a r s) :
    ∃ l rows s, NestArg W z R Q v (l : List α) rows s := by
  rcases Deep.open_slice ht h with ⟨hcs, _⟩ | ⟨a, len, cap, mm, n, D, Pl', hcs, _, hl, hm, hmm, _, hel⟩
  · simp only [List.cons.injEq, and_true] at hcs
    subst hcs
    exact ⟨[], fun _ => [], fun _ => .nils, ⟨fun j i y hy => by simp at hy, fun m j _ => rfl, fun f j _ => .inl ⟨.inl rfl, rfl⟩, Nat.zero_le _, fun a ha => by cases ha⟩⟩
  · simp only [List.cons.injEq, and_true] at hcs
    subst hcs
    simp only [Cell.okWide, ht, Cell.ok] at hok
    obtain ⟨_, _, _, hsp, row, cells, hsh, hlies⟩ := hok
    rw [if_pos rfl] at hmm
    subst hmm
    obtain ⟨ab, ao, asp⟩ := a
    simp only at hsp hsh hlies
    subst hsp
    unfold World.shape? at hsh
    split at hsh
    · rename_i c e' fz hobj
      simp only [Option.some.injEq, Prod.mk.injEq] at hsh
      obtain ⟨rfl, rfl⟩ := hsh
      have hoff : ao ≤ c.size := Nat.le_trans (liesAt_off hlies) (Nat.div_mul_le_self _ _)
      have hlt : ab < W.heap.size := by
        apply Classical.byContradiction
        intro hn
        rw [Array.getElem?_eq_none (by omega)] at hobj
        simp at hobj
      obtain ⟨A, hA⟩ := Deep.choose_lt (α := α × ARow × (Nat → List SV)) (p := fun i a => ElemArg W z R Q ((c.toList.drop (ao + i * z)).take z) a.1 a.2.1 a.2.2) (n := len) (fun i hi => by
        obtain ⟨cs', hcells, htr⟩ := hel i (by omega)
        obtain ⟨a, r, s, ha⟩ := hread _ _ _ htr
        refine ⟨(a, r, s), ?_⟩
        have : cs' = (c.toList.drop (ao + i * z)).take z := by
          rw [hc] at hcells
          obtain ⟨_, hlen, hat⟩ := World.cells?_some hcells
          apply List.ext_getElem?
          intro j
          by_cases hj : j < z
          · have := hat j hj
            rw [← this, Deep.add_add]
            have hadd : (Addr.mk ab ao none).add (i * z + j) = ⟨ab, ao + (i * z + j), none⟩ := by
              unfold Addr.add
              split
              · rename_i h0; rw [h0]; rfl
              · rfl
            rw [hadd]
            simp only [World.cell?, hobj, Option.isSome_none]
            rw [List.getElem?_take_of_lt hj, List.getElem?_drop, Array.getElem?_toList, Nat.add_assoc]
            rfl
          · rw [List.getElem?_eq_none (by omega), List.getElem?_eq_none (by rw [List.length_take]; omega)]
        rw [← this]
        exact ha)
      -- beyond the end: anything of the right length
      let g : Nat → Nat → List SV := fun j i => if i < len then (A i).2.2 (j + 1 + i) else List.replicate z .nilp
      have hg : ∀ j i, (g j i).length = z := fun j i => by
        show (if i < len then (A i).2.2 (j + 1 + i) else List.replicate z .nilp).length = z
        split
        · rename_i hi
          exact (hA i hi).len _
        · exact List.length_replicate
      let rows : Nat → List BRow := fun j => some (false, ⟨ab, ao, c.size⟩, (List.range len).flatMap (g j)) :: (List.range len).map fun i => argB (A i).2.1
      have hin0 : ∀ j i x, i < len → (A i).2.1 = some x → (rows j)[1 + i]? = some (some (false, x.1, x.2)) := by
        intro j i x hi hx
        show (_ :: (List.range len).map fun i => argB (A i).2.1)[1 + i]? = _
        rw [show 1 + i = i + 1 by omega, List.getElem?_cons_succ, List.getElem?_map, List.getElem?_range hi]
        show some (argB (A i).2.1) = _
        rw [hx]
        rfl
      refine ⟨(List.range len).map fun i => (A i).1, rows, fun j => .slice (Pos.ofNat j) 0 len mm, ⟨?_, ?_, ?_, ?_, ?_⟩⟩
      · intro j i y hy
        cases i with
        | zero =>
          have hy' : some (some (false, (⟨ab, ao, c.size⟩ : Pl), (List.range len).flatMap (g j))) = some (some y) := hy
          simp only [Option.some.injEq] at hy'
          subst hy'
          refine ⟨rfl, hlt, fun m hm => ⟨e', fz, c.toList.take ao, (c.toList.drop ao).take (len * z), (c.toList.drop ao).drop (len * z), ?_, trivial, ?_, ?_, ?_, fun t h => by simp at h⟩⟩
          · rw [List.take_append_drop, List.take_append_drop]
            exact hobj
          · simp; omega
          · simp only [List.length_take, List.length_drop, Array.length_toList]; omega
          · refine concs_blocks fun i hi => ?_
            have : g j i = (A i).2.2 (j + 1 + i) := if_pos hi
            rw [this]
            exact (hA i hi).val m _ fun x hx => by
              have := hm (1 + i) _ (hin0 j i x hi hx)
              rw [show j + 1 + i = j + (1 + i) by omega]
              exact this
        | succ i =>
          have hy' : ((List.range len).map fun i => argB (A i).2.1)[i]? = some (some y) := hy
          rw [List.getElem?_map] at hy'
          obtain ⟨i', hi', he⟩ := Option.map_eq_some_iff.1 hy'
          obtain ⟨hi1, hi2⟩ := List.getElem?_eq_some_iff.1 hi'
          rw [List.getElem_range] at hi2
          subst hi2
          have hil : i < len := by simpa using hi1
          obtain ⟨x, hx, rfl⟩ := Option.map_eq_some_iff.1 he
          exact ⟨rfl, ((hA i hil).row x hx).1, fun m _ => ((hA i hil).row x hx).2 m⟩
      · intro m j hj
        have := hj 0 _ rfl
        show (m (Pos.ofNat j)).map _ = _
        rw [Nat.add_zero] at this
        rw [this]
        simp
      · intro f j hj
        have h0 := hj 0 _ rfl
        rw [Nat.add_zero] at h0
        refine .inr ⟨Pos.ofNat j, 0, _, .inl ⟨mm, by simpa using hl, by simp⟩, h0, ?_, ?_⟩
        · rw [flatm_len2 (hg j)]; simp
        · intro i a ha
          rw [List.getElem?_map] at ha
          obtain ⟨i', hi', he⟩ := Option.map_eq_some_iff.1 ha
          obtain ⟨hi1, hi2⟩ := List.getElem?_eq_some_iff.1 hi'
          rw [List.getElem_range] at hi2
          subst hi2
          have hil : i < len := by simpa using hi1
          subst he
          rw [Nat.zero_add, flat_at2 (hg j) len i hil]
          have : g j i = (A i).2.2 (j + 1 + i) := if_pos hil
          rw [this]
          exact (hA i hil).rep f _ fun x hx => by
            have := hj (1 + i) _ (hin0 j i x hil hx)
            rw [show j + 1 + i = j + (1 + i) by omega]
            exact this
      · simp; omega
      · intro a ha
        obtain ⟨i, hi, rfl⟩ := List.mem_map.1 ha
        exact (hA i (List.mem_range.1 hi)).ok
    · simp at hsh

theorem memB_rel2 {W : World} {l : List BRow} (h : ∀ (j : Nat) (x : Bool × Pl × List SV), l[j]? = some (some x) → x.2.1.block < W.heap.size ∧ RowRel (mapB l) x.2.1 none .lost x.2.2 W.heap[x.2.1.block]? ∧ x.1 = false) : MRel W.heap.size (mapB l) (memB l) W := by
  have hown : ∀ x, (objB x).own = false := fun x => by unfold objB; cases x.1 <;> rfl
  refine ⟨fun b o p hb hp => ?_, fun b b' o o' p p' hb hb' how _ _ _ => ?_, fun b hb => ?_, fun b p hp => ?_, fun b o p hb ho _ => ?_, Nat.le_refl _, fun b c hb => ?_, ?_⟩
  · obtain ⟨x, hx, rfl⟩ := memB_get hb
    obtain ⟨y, hy, rfl⟩ := mapB_get hp
    rw [hx] at hy
    simp only [Option.some.injEq] at hy
    subst hy
    have := (h _ _ hx).2.1
    unfold objB
    cases x.1 <;> exact this
  · obtain ⟨x, _, rfl⟩ := memB_get hb
    obtain ⟨x', _, rfl⟩ := memB_get hb'
    rcases how with h | h
    · rw [hown] at h; simp at h
    · rw [hown] at h; simp at h
  · have hb' : (Pos.ofNat l.length).num ≤ b.num := hb
    rw [Pos.num_ofNat] at hb'
    constructor
    · cases hm : mapB l b with
      | none => rfl
      | some p =>
        obtain ⟨x, hx, _⟩ := mapB_get hm
        have := (List.getElem?_eq_some_iff.1 hx).1
        omega
    · cases hm : (memB l).t.get b with
      | none => rfl
      | some o =>
        obtain ⟨x, hx, _⟩ := memB_get hm
        have := (List.getElem?_eq_some_iff.1 hx).1
        omega
  · obtain ⟨x, hx, rfl⟩ := mapB_get hp
    exact (h _ _ hx).1
  · obtain ⟨x, _, rfl⟩ := memB_get hb
    rw [hown] at ho; simp at ho
  · obtain ⟨x, hx, hxo⟩ := memB_get hb
    have := (h _ _ hx).2.2
    unfold objB at hxo
    rw [this] at hxo
    simp at hxo
  · show l.length + 1 ≤ (Pos.ofNat l.length).num
    rw [Pos.num_ofNat]; exact Nat.le_refl _

/-- Rows before, and those of such an argument behind them. -/
theorem atM_app {pre l : List BRow} : AtM (mapB (pre ++ l)) pre.length l := fun i y hy => mapB_at (by rw [List.getElem?_append_right (Nat.le_add_right _ _), Nat.add_sub_cancel_left]; exact hy)
theorem atF_app {pre l : List BRow} (hf : ∀ (i : Nat) (y : Bool × Pl × List SV), l[i]? = some (some y) → y.1 = false) : AtF (rd (memB (pre ++ l))) pre.length l := fun i y hy => by
  have h1 := hf i y hy
  obtain ⟨a, p, c⟩ := y
  simp only at h1
  subst h1
  exact ro_rd (memB_ro (by rw [List.getElem?_append_right (Nat.le_add_right _ _), Nat.add_sub_cancel_left]; exact hy))
end Go.Ev

