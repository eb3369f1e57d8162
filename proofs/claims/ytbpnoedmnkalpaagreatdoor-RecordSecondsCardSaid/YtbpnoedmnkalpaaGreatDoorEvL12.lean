/- A part of the small machine. -/
import Derived.Test.YtbpnoedmnkalpaaGreatDoorEvL10
set_option linter.unusedVariables false
/- Zeros appended to nil; a slice cut to nothing, whose room is used again; structs with arrays that are built and stored whole. -/
namespace Go.Ev
open Go.RowKit
/-- So many zeros, at least one. -/
def mkz {α : Type} (n : Int) (bytes : Nat) (z : α) : Option (List α) := match n with
  | .ofNat 0 => none
  | .ofNat (j + 1) => bif Nat.ble (j + 1) 4611686018427387904 && Nat.ble (2 * (j + 1) * bytes) 281474976710656 then some (List.replicate (j + 1) z) else none
  | .negSucc _ => none
theorem mkz_some {α : Type} {n : Int} {bytes : Nat} {z : α} {l : List α} (h : mkz n bytes z = some l) : ∃ j : Nat, n = ((j + 1 : Nat) : Int) ∧ j + 1 ≤ 4611686018427387904 ∧ 2 * (j + 1) * bytes ≤ 281474976710656 ∧ l = List.replicate (j + 1) z := by
  match n with
  | .negSucc _ => simp [mkz] at h
  | .ofNat 0 => simp [mkz] at h
  | .ofNat (j + 1) =>
    rcases btf (Nat.ble (j + 1) 4611686018427387904 && Nat.ble (2 * (j + 1) * bytes) 281474976710656) with hc | hc
    · have h' := bif_t hc h
      rw [Bool.and_eq_true] at hc
      exact ⟨j, rfl, Nat.le_of_ble_eq_true hc.1, Nat.le_of_ble_eq_true hc.2, (Option.some.inj h').symm⟩
    · have h' := bif_f hc h
      simp at h'
theorem mkz_pos {α : Type} {n : Int} {bytes : Nat} {z : α} {l : List α} (h : mkz n bytes z = some l) : Nat.ble 1 l.length = true := by
  obtain ⟨j, _, _, _, rfl⟩ := mkz_some h
  exact Nat.ble_eq_true_of_le (by rw [List.length_replicate]; omega)
section
variable {P : Program} {F : Rd} {M : Mem} {H : List Ent} {e : Env} {p q : Operand} {t u tt : TypeId} {α : Type} {enc : α → List SV} {i n z by' : Nat} {bb : Pos} {l : List α} {c : List SV}
theorem ex_capN {y : Operand} (h : ar e y = some .nils) (hk : lenK P t = some .sl) : execO P M (treeOf e) (.call ⟨.builtin .cap, #[y], #[t]⟩) = .val (.int .i64 (0 : Int)) M := by
  rw [ex_builtin (l := [.nils]) (by show (match ar e y, ars e [] with | some s, some r => some (s :: r) | _, _ => none) = _; rw [h]; rfl)]
  show xCap P t .nils M = _
  unfold xCap
  rw [hk]
  rfl
theorem ExG.appendZ {el : Elt} {z0 : α} {kk : IntKind} {nn : Int} (h : ar e p = some .nils) (h' : ar e q = some (.int kk nn)) (hl : mkz nn by' z0 = some l) (ha : appT P t u = none) (hx : sliceElt P t = some el) (hu : intTy P u = true) (hby : el.bytes = by') (hsz : el.size = z) (hz0 : el.zero = enc z0) (hz1 : Nat.ble 1 z = true) (hlen : ∀ a, (enc a).length = z) (hH : Has F M H) :
    ExG P M e (.call ⟨.builtin .append, #[p, q], #[t, u]⟩) fun s' M' => ∃ b, s' = .ope b 0 l.length z ∧ Has F M' (.vec el.ty z l.length (.ope b 0 l.length z) (l.flatMap enc) :: H) := by
  intro hw
  subst hby hsz
  have hz1' := Nat.le_of_ble_eq_true hz1
  obtain ⟨j, rfl, h1, h2, rfl⟩ := mkz_some hl
  have hxx : execO P M (treeOf e) (.call ⟨.builtin .append, #[p, q], #[t, u]⟩) = xAppend P t u .nils (.int kk ((j + 1 : Nat) : Int)) M := by
    rw [ex_builtin (l := [.nils, .int kk ((j + 1 : Nat) : Int)]) (by show ars e [p, q] = _; simp only [ars, h, h'])]
    rfl
  have hin : intNat (((j + 1 : Nat) : Int)) = some (j + 1) := rfl
  have hg : xAppend P t u .nils (.int kk ((j + 1 : Nat) : Int)) M = grow (.head 0) M el (j + 1) (rep (j + 1) el.zero) := by
    unfold xAppend
    rw [ha]
    show xAppendZ P t u .nils (.int kk ((j + 1 : Nat) : Int)) M = _
    unfold xAppendZ
    simp only [hx, hu, hin]
  rw [grow_eq h1 h2 hz1', rep_flat hz0] at hg
  refine ⟨.ope M.next 0 (j + 1) el.size, _, hxx.trans hg, hw.anew _, M.next, by rw [List.length_replicate], hH.cons (hw.memLe_new _) (.inr ⟨M.next, .inr rfl, flatm_len hlen _, hw.own_new _⟩) fun b hb => ?_⟩
  simp only [Ent.fp, blk, List.mem_cons, List.not_mem_nil, or_false] at hb
  subst hb
  exact Nat.le_refl _
/-- Cut to nothing: the row is still the run's own. -/
theorem cut0_sl {k0 : IntKind} (hn : Nat.ble 1 n = true) (hk : slK P t = some (.sl z)) (M : Mem) : xSlice P t (.ope bb 0 n z) none (some (.int k0 0)) none M = .val (.ope bb 0 0 z) M := by
  have hn' := Nat.le_of_ble_eq_true hn
  have e : bnds none (some (.int k0 0)) none n n = some (0, 0, n) := by
    have h2 : Nat.ble 0 n = true := Nat.ble_eq_true_of_le (Nat.zero_le _)
    have h1 : boundS (some (.int k0 0)) n n = some 0 := by
      unfold boundS
      simp only [show intNat 0 = some 0 from rfl, h2]
    unfold bnds
    rw [show boundS none n n = some n from rfl]
    simp only [h1]
    rfl
  unfold xSlice
  simp only [hk, e, Nat.beq_refl]
  have hz : Nat.ble n 0 = false := by
    cases h : Nat.ble n 0 with
    | false => rfl
    | true => have := Nat.le_of_ble_eq_true h; omega
  simp only [hz, Nat.add_eq, Nat.mul_eq, Nat.zero_mul, Nat.sub_eq]
theorem ExG.cut0 {op : Op} (hx : execO P M (treeOf e) op = .val (.ope bb 0 0 z) M) (hH : Has F M H) (hi : H[i]? = some (.vec tt z n (.ope bb 0 n z) c)) : ExG P M e op fun s M' => s = .ope bb 0 0 z ∧ Has F M' (H.set i (.obj bb (.row tt (.head 0) c))) := by
  intro hw
  refine ⟨_, M, hx, .refl hw, rfl, ?_⟩
  rcases hH.get hi with ⟨h, _⟩ | ⟨b, hs, _, ho⟩
  · simp at h
  · have hb : b = bb := by
      rcases hs with h | h
      · simp at h
      · simp only [SV.ope.injEq] at h; exact h.1.symm
    subst hb
    exact hH.upd hi (.refl M) (fun _ _ _ h => h) ⟨ho, rfl⟩ (fun b hb => .inl (by simpa [Ent.fp, blk] using hb))
theorem MRel.trunc {B : Nat} {m : Map} {M : Mem} {w : World} (hr : MRel B m M w) {b : Pos} {tt : TypeId} {j : Nat} {c : List SV} (hb : M.t.get b = some (.row tt (.head j) c)) : MRel B m ⟨M.t.put (some (.row tt (.head j) [])) b, M.next, M.floor⟩ w := by
  have hg : ∀ b' o, (M.t.put (some (SObj.row tt (.head j) [])) b).get b' = some o → b' = b ∧ o = .row tt (.head j) [] ∨ b' ≠ b ∧ M.t.get b' = some o := by
    intro b' o h
    by_cases he : b = b'
    · subst he
      rw [Tree.get_put_same] at h
      exact .inl ⟨rfl, (Option.some.inj h).symm⟩
    · rw [Tree.get_put_other _ _ he] at h
      exact .inr ⟨fun e => he e.symm, h⟩
  refine ⟨fun b' o p h hp => ?_, fun b1 b2 o1 o2 p1 p2 h1 h2 how hp1 hp2 he => ?_, fun b' h => ⟨(hr.fresh b' h).1, ?_⟩, hr.bound, fun b' o p h ho hp => ?_, hr.base, fun b' c' h => ?_, hr.flo⟩
  · rcases hg b' o h with ⟨rfl, rfl⟩ | ⟨_, h⟩
    · obtain ⟨e, fz, pre, vs, post, h1, hf, h2, h3, h4, h5⟩ := hr.objs b' _ p hb hp
      exact ⟨e, fz, pre, [], vs ++ post, h1, hf, h2, by simpa using h3, concs_nil _, h5⟩
    · exact hr.objs b' o p h hp
  · rcases hg b1 o1 h1 with ⟨e1, f1⟩ | ⟨_, g1⟩ <;> rcases hg b2 o2 h2 with ⟨e2, f2⟩ | ⟨_, g2⟩
    · exact e1.trans e2.symm
    · exact hr.inj b1 b2 _ o2 p1 p2 (e1 ▸ hb) g2 (.inl rfl) hp1 hp2 he
    · exact hr.inj b1 b2 o1 _ p1 p2 g1 (e2 ▸ hb) (.inr rfl) hp1 hp2 he
    · exact hr.inj b1 b2 o1 o2 p1 p2 g1 g2 how hp1 hp2 he
  · show Tree.get b' (M.t.put _ _) = none
    rw [Tree.get_put_other _ _ (fun e => by subst e; have := (hr.fresh b h).2; rw [hb] at this; simp at this)]
    exact (hr.fresh b' h).2
  · rcases hg b' o h with ⟨rfl, rfl⟩ | ⟨_, h⟩
    · exact hr.low _ _ p hb rfl hp
    · exact hr.low b' o p h ho hp
  · rcases hg b' _ h with ⟨_, h⟩ | ⟨_, h⟩
    · cases h
    · exact hr.glob b' c' h
theorem Stepped.trunc {B : Nat} {m : Map} {M : Mem} {w : World} (hr : MRel B m M w) {b : Pos} {tt : TypeId} {j : Nat} {c : List SV} (hb : Own M b (.row tt (.head j) c)) (hpl : m b ≠ none) : Stepped B m M w m ⟨M.t.put (some (.row tt (.head j) [])) b, M.next, M.floor⟩ w := by
  refine ⟨hr.trunc hb.get, fun _ _ => rfl, fun b' hl hm => ?_, Nat.le_refl _, Below.refl _ _, fun _ _ _ => rfl, fun k hk ho => ?_, fun b' hl => ?_, rfl, fun b' c' h => ?_, fun b' p hb' hp _ => absurd hp (by rw [(hr.fresh b' hb').1]; simp)⟩
  · by_cases he : b = b'
    · subst he
      exact absurd hm hpl
    · show Tree.get b' (M.t.put _ _) = _
      rw [Tree.get_put_other _ _ he]
  · obtain ⟨d, x, q, hx, hxo, hq, he⟩ := ho
    by_cases hd : b = d
    · subst hd
      exact ⟨b, _, q, hb.get, rfl, hq, he⟩
    · rw [Tree.get_put_other _ _ hd] at hx
      exact ⟨d, x, q, hx, hxo, hq, he⟩
  · show Tree.get b' (M.t.put _ _) = _
    rw [Tree.get_put_other _ _ (fun e => by subst e; have := hb.low; omega)]
  · by_cases he : b = b'
    · subst he
      rw [Tree.get_put_same] at h
      simp at h
    · rw [Tree.get_put_other _ _ he] at h
      exact h
variable {fx : Fx} {nn : Nat} {Q : SV → Mem → Prop} {k : List SItem}
/-- What has been cut to nothing is a slice of no elements again. -/
theorem Run.trunc {ti : Nat} (ht : lk ti e = some (.ope bb 0 0 z)) (hH : Has F M H) (hi : H[i]? = some (.obj bb (.row tt (.head 0) c)))
    (next : ∀ M', Has F M' (H.set i (.vec tt z 0 (.ope bb 0 0 z) [])) → Run P fx nn Q e k M') : Run P fx nn Q e k M := by
  have ho := (hH.get hi).1
  have hnx := hH.upd (y := .vec tt z 0 (.ope bb 0 0 z) []) (M' := ⟨M.t.put (some (.row tt (.head 0) [])) bb, M.next, M.floor⟩) hi (put_ro ho rfl) (fun c o hcn hco => put_keep c o hcn hco)
    (.inr ⟨bb, .inr rfl, by simp, ⟨Tree.get_put_same _ _ _, ho.low, ho.lt⟩⟩) (fun b hb => .inl (by simpa [Ent.fp, blk] using hb))
  have hrun := next _ hnx
  intro hw
  have ha : Aft M ⟨M.t.put (some (.row tt (.head 0) [])) bb, M.next, M.floor⟩ := hw.put ho.lt
  obtain ⟨s, M', hq, ha2, hto⟩ := hrun ha.wf
  refine ⟨s, M', hq, ha.trans ha2, ?_⟩
  intro hmix B m w fr frs cs0 hr hf hcs
  have hpl : m bb ≠ none := by
    intro hm
    obtain ⟨c, tm, todo, rfl, hcx, htr, hn, hk⟩ := hf
    obtain ⟨v, _, hv⟩ := htr ti _ (by rw [treeOf_get]; exact ht)
    simp [conc, hm] at hv
  have hst := Stepped.trunc hr ho hpl
  obtain ⟨fr', w', m', x, g1, g2, g3, g4, g5⟩ := hto hmix B m w fr frs cs0 hst.rel hf hcs
  exact ⟨fr', w', m', x, g1, hst.trans g2, g3, g4, g5⟩
/-- A struct with arrays is stored whole. -/
theorem ExG.storeAll {zz : Nat} {l0 : List α} (h : ar e p = some (.ptr bb 0)) (h' : ar e q = some (.agg (l.flatMap enc))) (hH : Has F M H) (hi : H[i]? = some (.obj bb (.row tt .whole (l0.flatMap enc)))) (hz : szOf P t = some zz) (hlen : ∀ a, (enc a).length = 1) (h1 : ∀ a, ones (enc a) = true) (hl : l.length = zz) (hl0 : l0.length = zz) :
    ExG P M e (.store t p q) fun s M' => s = .tuple [] ∧ Has F M' (H.set i (.obj bb (.row tt .whole (l.flatMap enc)))) :=
  ExG.storeC (cs := l.flatMap enc) h h' rfl hH hi hz (by rw [flatm_len hlen, hl, Nat.mul_one]) rfl (Nat.ble_eq_true_of_le (by rw [flatm_len hlen, hl0]; omega)) (ones_enc h1 l) (by
    rw [List.take_zero, List.nil_append, Nat.zero_add, List.drop_of_length_le (by rw [flatm_len hlen, hl0]; omega), List.append_nil])
end
end Go.Ev

/- The first operations of a region, free of order, before others that follow in their order. -/
namespace Go.Ev
open Go.RowKit
variable {P : Program}

section
variable {B : Nat} {n N : Nat} {all : Array Oper} {Ms : Nat → Mem} {σs : Nat → Tree SV} {ss : Nat → SV} {m0 : Map} {w0 : World}

/-- The first N operations of a region, where the others come behind all before them: the model then stands before the others, in their order. -/
theorem pure_headR (hmix : P.follows .mixedOrders = true) {all : Array Oper} (hok : PureOK all) {N : Nat} (hNs : N ≤ all.size) (htail : ∀ i, N ≤ i → i < all.size → ∀ k, k < i → Before all k i) {m : Map} {M : Mem} {w : World} {σ σ1 : Tree SV} {tm : Array Value} {M1 : Mem} {rest : List Nat}
    (hrun : PureR P n all (all.toList.take N) σ M σ1 M1)
    (hr : MRel B m M w) (hT : TRel m σ tm) (hn : tm.size = n) (topo : Topo all [] rest) (cx : Cx) (todo : List Item) (fs : List Frame) :
    ∃ m' w' tm', Steps P (lone (mkF cx tm (.inRegion all rest :: todo)) fs w) (lone (mkF cx tm' (.inRegion all ((List.range all.size).drop N) :: todo)) fs w') ∧ Stepped B m M w m' (unlift M.floor M1) w' ∧ TRel m' σ1 tm' ∧ tm'.size = n := by
  obtain ⟨Ms, σs, ss, ht, rfl, rfl, rfl, rfl⟩ := pureR_trace hNs (all.toList.take N) 0 σ M (Nat.zero_le _) rfl hrun
  have hs := symR (P := P) hmix hNs ht hr hT hn
  have hext0 : ∀ b p, m b = some p → b.num < (Ms 0).next.num := by
    intro b p hb
    apply Classical.byContradiction
    intro e
    rw [(hr.fresh b (by omega)).1] at hb
    simp at hb
  have hcut : ∀ i, i ≤ N → cut m (Ms i).next.num = m := by
    intro i hi
    funext b
    unfold cut
    split
    · rfl
    · rename_i hb
      have := hs.next 0 i (by omega) hi
      exact ((hr.fresh b (by omega)).1).symm
  have h0 : Inv B all N n Ms σs ss m w m w tm [] := by
    refine ⟨fun i hi => ?_, hn, by simp, fun t s hts _ => by rw [hcut 0 (Nat.zero_le _)]; exact hT t s hts, fun j hj _ b h1 _ => ?_, fun _ _ => rfl, Below.refl _ _, fun _ _ _ => rfl, fun k hk ho => ?_, fun b p hb hp _ => absurd hp (by rw [(hr.fresh b hb).1]; simp), by simp, by simp⟩
    · rw [hcut i hi]
      have hnx := hs.next 0 i (by omega) hi
      have hg : ∀ b p, m b = some p → (Ms i).t.get b = (Ms 0).t.get b := fun b p hb => hs.old 0 i (by omega) hi b (hext0 b p hb)
      refine ⟨fun b o p hb hp => hr.objs b o p (by rw [← hg b p hp]; exact hb) hp, fun b b' o o' p p' h1 h2 how h3 h4 he => hr.inj b b' o o' p p' (by rw [← hg b p h3]; exact h1) (by rw [← hg b' p' h4]; exact h2) how h3 h4 he,
        fun b hb => ⟨(hr.fresh b (by omega)).1, hs.none i hi b hb⟩, hr.bound, fun b o p hb hown hp => hr.low b o p (by rw [← hg b p hp]; exact hb) hown hp, hr.base, fun b c hc => hr.glob b c (hs.fixes i hi b c hc), hs.flo i hi⟩
    · have := hs.next 0 j (by omega) (by omega)
      exact (hr.fresh b (by omega)).1
    · rw [hcut _ (Nat.le_refl _)] at ho
      obtain ⟨c, x, q, hx, hxo, hq, hqe⟩ := ho
      exact ⟨c, x, q, by rw [← hs.old 0 N (by omega) (Nat.le_refl _) c (hext0 c q hq)]; exact hx, hxo, hq, hqe⟩
  have key : ∀ (rest : List Nat) (S : List Nat) (m1 : Map) (w1 : World) (tm1 : Array Value), Inv B all N n Ms σs ss m w m1 w1 tm1 S → Topo all S rest →
      ∃ m' w' tm' S' rest', Steps P (lone (mkF cx tm1 (.inRegion all rest :: todo)) fs w1) (lone (mkF cx tm' (.inRegion all rest' :: todo)) fs w') ∧ Inv B all N n Ms σs ss m w m' w' tm' S' ∧ Topo all S' rest' ∧ ∀ i, i < N → i ∈ S' := by
    intro rest
    induction rest with
    | nil =>
      intro S m1 w1 tm1 h tp
      cases tp with
      | nil hall => exact ⟨m1, w1, tm1, S, [], .refl _ _, h, .nil hall, fun i hi => hall i (by omega)⟩
    | cons j rest ih =>
      intro S m1 w1 tm1 h tp
      by_cases hj : j < N
      · obtain ⟨m2, w2, tm2, hs2, h2⟩ := h.stepR (P := P) hmix hok hNs ht hs tp hj cx todo fs
        cases tp with
        | cons _ _ _ tp' =>
          obtain ⟨m3, w3, tm3, S3, r3, hs3, h3, tp3, hall⟩ := ih _ _ _ _ h2 tp'
          exact ⟨m3, w3, tm3, S3, r3, hs2.trans hs3, h3, tp3, hall⟩
      · refine ⟨m1, w1, tm1, S, j :: rest, .refl _ _, h, tp, fun i hi => ?_⟩
        cases tp with
        | cons hjS ho hp _ =>
          exact before_mem ho hp h.closed (htail j (by omega) (Array.getElem?_eq_some_iff.1 ho).1 i (by omega))
  obtain ⟨m1, w1, tm1, S, rest1, hsteps, h, tp1, hall⟩ := key rest [] m w tm h0 topo
  have hN := hs.next 0 N (Nat.zero_le _) (Nat.le_refl _)
  have hrN := h.rel N (Nat.le_refl _)
  have hst1 : Stepped B m (Ms 0) w (cut m1 (Ms N).next.num) (unlift (Ms 0).floor (Ms N)) w1 := by
    refine ⟨⟨hrN.objs, hrN.inj, hrN.fresh, hrN.bound, hrN.low, hrN.base, hrN.glob, ?_⟩, fun b hb => ?_, fun b hb _ => hs.old 0 N (Nat.zero_le _) (Nat.le_refl _) b hb, hN, h.below, h.frame, h.born, fun b hb => ?_, rfl, fun b c hc => hs.fixes N (Nat.le_refl _) b c hc, fun b p hb hp hlt => h.news b p hb (cut_some hp).2 hlt⟩
    · show (Ms 0).floor ≤ (Ms N).next.num
      have := hr.flo
      omega
    · rw [cut_lt (by omega)]; exact h.same b hb
    · have := hr.flo
      exact hs.old 0 N (Nat.zero_le _) (Nat.le_refl _) b (by omega)
  have hT1 : ∀ t s, (σs N).get (Pos.ofNat t) = some s → (∀ (k : Nat) (o : Oper), k < N → k ∉ S → all[k]? = some o → o.dst ≠ some t) → ∃ v, tm1[t]? = some v ∧ conc (cut m1 (Ms N).next.num) s = some v := by
    intro t s hts hcond
    by_cases hex : ∃ (i : Nat) (o' : Oper), i < N ∧ all[i]? = some o' ∧ o'.dst = some t
    · obtain ⟨i, o', hi, h3, h4⟩ := hex
      have hiS : i ∈ S := by
        apply Classical.byContradiction
        intro e
        exact hcond i o' hi e h3 h4
      rw [(sig_ownR hok hNs ht h3 h4 N hi (Nat.le_refl _)).1] at hts
      cases hts
      obtain ⟨v, g1, g2⟩ := h.fin i hiS o' t h3 h4
      exact ⟨v, g1, conc_ext (cut_ext (hs.next (i + 1) N (by omega) (Nat.le_refl _))) _ _ g2⟩
    · have hno : ∀ (i : Nat) (o' : Oper), i < N → all[i]? = some o' → o'.dst ≠ some t := fun i o' hi h3 h4 => hex ⟨i, o', hi, h3, h4⟩
      rw [sig_otherR hNs ht N (Nat.le_refl _) t fun i o' hi h3 => hno i o' hi h3] at hts
      obtain ⟨v, g1, g2⟩ := h.old t s hts hno
      exact ⟨v, g1, conc_ext (cut_ext hN) _ _ g2⟩
  have hrest : rest1 = (List.range all.size).drop N := topo_seq rest1 hNs htail (fun k => ⟨h.sub k, hall k⟩) h.closed tp1
  subst hrest
  exact ⟨_, w1, tm1, hsteps, hst1, fun t s hts => hT1 t s hts fun k o hk hkS _ => absurd (hall k hk) hkS, h.size⟩

end
section
variable {fx : Fx} {n : Nat} {Q : SV → Mem → Prop} {e : Env} {k : List SItem} {M : Mem}
theorem part_agg {t : TypeId} {l : List SV} {off z : Nat} {p : SV} (h : aggSize P t = some (some z)) (hs : (match Nat.ble (Nat.add off z) (len l) with | true => some (SV.agg (tk z (dp off l))) | false => none) = some p) : partS P t l off = some p := by
  unfold partS
  simp only [h]
  exact hs
/-- A region that draws, by its head: the others are then carried out one by one. -/
theorem Run.headG {i N : Nat} {ops : Array Oper} {r tl : List Oper} (hp : seqP ops = some N) (hr : ops.toList.take N = r) (htl : ops.toList.drop N = tl) (h : PureG P fx n Q ops (.ops ops tl :: k) [] r e M) : Run P fx n Q e (.code (.region i ops true) :: k) M := by
  subst hr; subst htl
  intro hw
  obtain ⟨e1, M1, h1, h2, h3⟩ := h hw
  obtain ⟨e2, M2, h4, h5, h6⟩ := h3 h2.wf
  obtain ⟨s, M', hq', ha2, hto⟩ := h6 (h2.trans h5).wf
  refine ⟨s, M', hq', (h2.trans h5).trans ha2, ?_⟩
  intro hmix B m w fr frs cs0 hr hf hc
  obtain ⟨cc, tm, todo, rfl, hcx, ht, hn, hk⟩ := hf
  cases hk with
  | cons hi hk =>
  rename_i it todo
  cases it <;> simp only [IRel] at hi
  subst hi
  obtain ⟨hfw, hok, hNs, htail⟩ := seqP_ok hp
  have hs0 := stepR_region_draw (P := P) (b := mkF cc tm []) (a := ⟨tm, cc.ds⟩) (k := todo) (cs := frs ++ cs0) (w := w) (ops := ops) (id := i)
  rw [hmix] at hs0
  have hr1 : MRel B m M { w with drawn := w.drawn + 1 } := hr.drew rfl
  obtain ⟨m', w', tm', hs, hst, ht', hn'⟩ := pure_headR (P := P) hmix hok hNs htail h1 hr1 ht hn (schedule_topo hfw _) cc todo (frs ++ cs0)
  have h4' := h4
  generalize he2 : treeOf e2 = τ at h4'
  cases h4'
  have hst' : Stepped B m M w m' (unlift M.floor M1) w' := ⟨hst.rel, hst.same, hst.keep, hst.next, ⟨hst.below.os, hst.below.tape, hst.below.output, hst.below.size, hst.below.block⟩, hst.frame, hst.born, hst.under, hst.floor, hst.fixes, hst.news⟩
  have hext := hst'.ext hr
  obtain ⟨fr2, w2, m2, x, g1, g2, g3, g4, g5⟩ := hto hmix B m' w' (mkF cc tm' (.inRegion ops ((List.range ops.size).drop N) :: todo)) frs cs0 hst'.rel ⟨cc, tm', _, rfl, hcx.ext hext, by rw [he2]; exact ht', hn', .cons ⟨rfl, N, rfl, rfl⟩ (All2.mono (fun _ _ => IRel.ext hext) hk)⟩ (all2_ext hext hc)
  exact ⟨fr2, w2, m2, x, (Steps.head hs0 hs).trans g1, hst'.trans g2, g3, g4, g5⟩
end
end Go.Ev

