/- A part of the small machine. -/
import Derived.Test.YtjddbfpinjjkkabGreatDoorEvL6
set_option linter.unusedVariables false
namespace Go.Ev
open Go.RowKit
variable {P : Program}
theorem MRel.froze {B : Nat} {m : Map} {M : Mem} {w : World} (hr : MRel B m M w) {b : Pos} {tt : TypeId} {rk : RK} {c : List SV} (hb : M.t.get b = some (.row tt rk c)) : MRel B m ⟨M.t.put (some (.ro c)) b, M.next, M.floor⟩ w := by
  have hg : ∀ b' o, (M.t.put (some (SObj.ro c)) b).get b' = some o → b' = b ∧ o = .ro c ∨ b' ≠ b ∧ M.t.get b' = some o := by
    intro b' o h
    by_cases he : b = b'
    · subst he
      rw [Tree.get_put_same] at h
      exact .inl ⟨rfl, (Option.some.inj h).symm⟩
    · rw [Tree.get_put_other _ _ he] at h
      exact .inr ⟨fun e => he e.symm, h⟩
  refine ⟨fun b' o p h hp => ?_, fun b1 b2 o1 o2 p1 p2 h1 h2 how hp1 hp2 he => ?_, fun b' h => ⟨(hr.fresh b' h).1, ?_⟩, hr.bound, fun b' o p h ho hp => ?_, hr.base, fun b' c' h => ?_, hr.flo⟩
  · rcases hg b' o h with ⟨rfl, rfl⟩ | ⟨_, h⟩
    · obtain ⟨e, fz, pre, vs, post, h1, _, h2, h3, h4, _⟩ := hr.objs b' _ p hb hp
      exact ⟨e, fz, pre, vs, post, h1, trivial, h2, h3, h4, fun t ht => by simp at ht⟩
    · exact hr.objs b' o p h hp
  · rcases hg b1 o1 h1 with ⟨e1, f1⟩ | ⟨_, g1⟩ <;> rcases hg b2 o2 h2 with ⟨e2, f2⟩ | ⟨_, g2⟩
    · exact e1.trans e2.symm
    · exact hr.inj b1 b2 _ o2 p1 p2 (e1 ▸ hb) g2 (.inl rfl) hp1 hp2 he
    · exact hr.inj b1 b2 o1 _ p1 p2 g1 (e2 ▸ hb) (.inr rfl) hp1 hp2 he
    · exact hr.inj b1 b2 o1 o2 p1 p2 g1 g2 how hp1 hp2 he
  · show Tree.get b' (M.t.put _ _) = none
    rw [Tree.get_put_other _ _ (fun e => by subst e; have := (hr.fresh b h).2; rw [hb] at this; simp at this)]
    exact (hr.fresh b' h).2
  · rcases hg b' o h with ⟨rfl, rfl⟩ | ⟨_, h⟩
    · simp [SObj.own] at ho
    · exact hr.low b' o p h ho hp
  · rcases hg b' _ h with ⟨_, h⟩ | ⟨_, h⟩
    · cases h
    · exact hr.glob b' c' h
theorem Stepped.froze {B : Nat} {m : Map} {M : Mem} {w : World} (hr : MRel B m M w) {b : Pos} {tt : TypeId} {rk : RK} {c : List SV} (hb : Own M b (.row tt rk c)) (hpl : m b ≠ none) : Stepped B m M w m ⟨M.t.put (some (.ro c)) b, M.next, M.floor⟩ w := by
  refine ⟨hr.froze hb.get, fun _ _ => rfl, fun b' hl hm => ?_, Nat.le_refl _, Below.refl _ _, fun _ _ _ => rfl, fun k hk ho => ?_, fun b' hl => ?_, rfl, fun b' c' h => ?_, fun b' p hb' hp _ => absurd hp (by rw [(hr.fresh b' hb').1]; simp)⟩
  · by_cases he : b = b'
    · subst he
      exact absurd hm hpl
    · show Tree.get b' (M.t.put _ _) = _
      rw [Tree.get_put_other _ _ he]
  · obtain ⟨d, x, q, hx, hxo, hq, he⟩ := ho
    by_cases hd : b = d
    · subst hd
      rw [Tree.get_put_same] at hx
      simp only [Option.some.injEq] at hx
      subst hx
      simp [SObj.own] at hxo
    · rw [Tree.get_put_other _ _ hd] at hx
      exact ⟨d, x, q, hx, hxo, hq, he⟩
  · show Tree.get b' (M.t.put _ _) = _
    rw [Tree.get_put_other _ _ (fun e => by subst e; have := hb.low; omega)]
  · by_cases he : b = b'
    · subst he
      rw [Tree.get_put_same] at h
      simp at h
    · rw [Tree.get_put_other _ _ he] at h
      exact h
section
variable {fx : Fx} {n : Nat} {Q : SV → Mem → Prop} {e : Env} {k : List SItem} {M : Mem} {F : Rd} {H : List Ent} {x y : Ent}
theorem Run.freeze {α : Type} {enc : α → List SV} {i t z : Nat} {sv : SV} {l : List α} {tt : TypeId} (ht : lk t e = some sv) (hH : Has F M H) (hi : H[i]? = some (.vec tt z l.length sv (l.flatMap enc))) (hlen : ∀ a, (enc a).length = z)
    (next : ∀ F' M', RdLe F F' → Has F' M' (H.set i (.vec 0 0 0 .nils [])) → Slc F' z (FlatR enc) sv l → Run P fx n Q e k M') : Run P fx n Q e k M := by
  rcases hH.get hi with ⟨rfl, h0, hc0⟩ | ⟨b, hsv, hc, ho⟩
  · have hl : l = [] := List.length_eq_zero_iff.1 h0
    subst hl
    refine next F M (fun _ _ h => h) ?_ (.inl ⟨.inl rfl, rfl⟩)
    exact hH.upd hi (.refl M) (fun _ _ _ h => h) (.inl ⟨rfl, rfl, rfl⟩) (fun b hb => by simp [Ent.fp, blk] at hb)
  · have hnx := hH.upd (y := .vec 0 0 0 .nils []) (M' := ⟨M.t.put (some (.ro (l.flatMap enc))) b, M.next, M.floor⟩) hi (put_ro ho rfl) (fun c o hcn hco => put_keep c o (by rcases hsv with rfl | rfl <;> exact hcn) hco) (.inl ⟨rfl, rfl, rfl⟩) (fun b hb => by simp [Ent.fp, blk] at hb)
    have hro : ro ⟨M.t.put (some (.ro (l.flatMap enc))) b, M.next, M.floor⟩ b = some (l.flatMap enc) := ro_mk ho.lt (.inl (Tree.get_put_same _ _ _))
    have hslc : Slc (ro ⟨M.t.put (some (.ro (l.flatMap enc))) b, M.next, M.floor⟩) z (FlatR enc) sv l := by
      refine .inr ⟨b, 0, _, ?_, hro, by rw [hc]; omega, fun i a ha => by rw [Nat.zero_add]; exact flat_at hlen l i a ha⟩
      rcases hsv with h | h
      · exact .inl ⟨_, Nat.le_refl _, h⟩
      · exact .inr h
    have hrun := next _ _ hnx.base (hnx.upF fun _ _ h => h) hslc
    intro hw
    have ha : Aft M ⟨M.t.put (some (.ro (l.flatMap enc))) b, M.next, M.floor⟩ := hw.put ho.low ho.lt
    obtain ⟨s, M', hq, ha2, hto⟩ := hrun ha.wf
    refine ⟨s, M', hq, ha.trans ha2, ?_⟩
    intro hmix B m w fr frs cs0 hr hf hcs
    have hpl : m b ≠ none := by
      intro hm
      obtain ⟨c, tm, todo, rfl, hcx, htr, hn, hk⟩ := hf
      obtain ⟨v, _, hv⟩ := htr t sv (by rw [treeOf_get]; exact ht)
      rcases hsv with rfl | rfl <;> simp [conc, hm] at hv
    have hst := Stepped.froze hr ho hpl
    obtain ⟨fr', w', m', x, g1, g2, g3, g4, g5⟩ := hto hmix B m w fr frs cs0 hst.rel hf hcs
    exact ⟨fr', w', m', x, g1, hst.trans g2, g3, g4, g5⟩
end
end Go.Ev
namespace Go.Ev
open Go.RowKit
variable {P : Program}
section
variable {fx : Fx} {n : Nat} {Q : SV → Mem → Prop} {e : Env} {k : List SItem} {M : Mem} {all : Array Oper} {F : Rd} {H : List Ent}
theorem Has.le (hH : Has F M H) : RdLe F (rd M) := fun b c hb => ro_rd (hH.base b c hb)
theorem rdLe_roF (hH : Has F M H) : RdLe F (rowOf M) := fun b c hb => ro_row (hH.base b c hb)
theorem Run.callP {r : List Oper} {d : Option Tmp} {op : Op} {ty : TypeId} {pos : String} {af : Array Edge} {gd : Option (Nat × Bool)} {g : FuncId} {xs : List SV} {s0 : SV}
    (hw : wantS all (treeOf e) ⟨d, op, ty, pos, af, gd⟩ = some true) (hx : execO P M (treeOf e) op = .enter g xs M) (hd : okD d n = true) (hc : CallsM P g xs M fun s M' => s = s0 ∧ M' = M)
    (next : Run P fx n Q (putE d s0 e) (.ops all r :: k) M) : Run P fx n Q e (.ops all (⟨d, op, ty, pos, af, gd⟩ :: r) :: k) M :=
  Run.callX hw hx hd hc fun s M' h => by obtain ⟨rfl, rfl⟩ := h; exact next
theorem DrawG.callP {i : Nat} {op : Op} {ty : TypeId} {pos : String} {af : Array Edge} {g : Option (Nat × Bool)} {d : Option Tmp} {L : List Nat} {r : List PE} {f : FuncId} {xs : List SV} {s0 : SV} (ho : all[i]? = some ⟨d, op, ty, pos, af, g⟩) (hw : wantS all (treeOf e) ⟨d, op, ty, pos, af, g⟩ = some true) (hx : execO P M (treeOf e) op = .enter f xs M) (hd : okD d n = true) (hc : CallsM P f xs M fun s M' => s = s0 ∧ M' = M)
    (hs : allStill P all M (treeOf (putE d s0 e)) L = true) (h : DrawG P fx n Q all k r (putE d s0 e) M) : DrawG P fx n Q all k (.an i L :: r) e M :=
  DrawG.call ho hw hx hd hc fun v M' hv => by obtain ⟨rfl, rfl⟩ := hv; exact ⟨hs, h⟩
theorem none_le (F : Rd) : RdLe (fun _ => none) F := fun _ _ h => by cases h
end
end Go.Ev
namespace Go.Ev
open Go.RowKit
variable {P : Program}
theorem cells_one {s : SV} (h : one s = true) : cellsOf s = [s] := by cases s <;> first | rfl | simp [one] at h
theorem ones_nil : ones [] = true := rfl
theorem ones_cons {s : SV} {l : List SV} (h : one s = true) (h' : ones l = true) : ones (s :: l) = true := by
  show Bool.rec (motive := fun _ => Bool) false (ones l) (one s) = true
  rw [h]; exact h'
theorem slc_one {α : Type} {f : Rd} {z : Nat} {R : List SV → α → Prop} {s : SV} {l : List α} (h : Slc f z R s l) : one s = true := by
  rcases h with ⟨rfl | ⟨_, _, _, rfl⟩ | ⟨_, rfl⟩, _⟩ | ⟨b, off, c, ⟨cap, _, rfl⟩ | rfl, _⟩ <;> rfl
section
variable {fx : Fx} {n : Nat} {Q : SV → Mem → Prop} {e : Env} {k : List SItem} {M : Mem} {all : Array Oper} {F : Rd} {H : List Ent} {t : TypeId} {p q : Operand}
theorem vec_one (hH : Has F M H) {i tt z n : Nat} {sv : SV} {c : List SV} (hi : H[i]? = some (.vec tt z n sv c)) : one sv = true := by
  rcases hH.get hi with ⟨rfl, _⟩ | ⟨b, rfl | rfl, _⟩ <;> rfl
theorem ExG.box {s : SV} {c : List SV} (h : ar e p = some s) (hc : cellsOf s = c) (hH : Has F M H) : ExG P M e (.box t p) fun v M' => ∃ b, v = .ptr b 0 ∧ Has F M' (.obj b (.row t .whole c) :: H) := by
  subst hc
  exact ExG.new (v := fun b => .ptr b 0) (ex_box h) hH
theorem ExG.storeC {i : Nat} {bb : Pos} {off zz : Nat} {s : SV} {tt : TypeId} {rk : RK} {c c' cs : List SV} (h : ar e p = some (.ptr bb off)) (h' : ar e q = some s) (hcs : cellsOf s = cs) (hH : Has F M H) (hi : H[i]? = some (.obj bb (.row tt rk c))) (hz : szOf P t = some zz) (hl : cs.length = zz) (hk : frzOK rk off = true) (hle : Nat.ble (off + zz) c.length = true) (h1 : ones cs = true) (hc : c.take off ++ (cs ++ c.drop (off + zz)) = c') :
    ExG P M e (.store t p q) fun s M' => s = .tuple [] ∧ Has F M' (H.set i (.obj bb (.row tt rk c'))) := by
  subst hcs
  exact ExG.store h h' hH hi hz hl hk hle h1 hc
end
end Go.Ev
namespace Go.Ev
theorem Has.pickT {F : Rd} {M : Mem} {L T : List Ent} (h : Has F M (L ++ T)) (l : List Nat) (hl : nodupB l = true) {L' : List Ent} (he : pickL l L = L') : Has F M (L' ++ T) := by
  have hL : Has F M L := ⟨h.base, fun x hx => h.ok x (List.mem_append_left _ hx), by
    have := h.nd
    rw [List.flatMap_append, List.nodup_append] at this
    exact this.1⟩
  have hp := hL.pick l hl he
  refine ⟨h.base, fun x hx => ?_, ?_⟩
  · rcases List.mem_append.1 hx with hx | hx
    · exact hp.ok x hx
    · exact h.ok x (List.mem_append_right _ hx)
  · have hn := h.nd
    rw [List.flatMap_append, List.nodup_append] at hn ⊢
    refine ⟨hp.nd, hn.2.1, ?_⟩
    rintro b hb c hc rfl
    obtain ⟨z, hz, hbz⟩ := List.mem_flatMap.1 hb
    rw [← he] at hz
    obtain ⟨j, _, hj⟩ := mem_pickL hz
    exact hn.2.2 b (List.mem_flatMap.2 ⟨z, List.mem_of_getElem? hj, hbz⟩) b hc rfl
end Go.Ev
namespace Go.Ev
open Go.RowKit
variable {P : Program}
def FixIn (M : Mem) (l : List (Nat × List SV)) : Prop := ∀ x ∈ l, M.t.get (Pos.ofNat x.1) = some (.fix x.2) ∧ (Pos.ofNat x.1).num < M.next.num
noncomputable def fixE (x : Nat × List SV) : Ent := .fixd (Pos.ofNat x.1) x.2
theorem FixIn.frozen {M : Mem} {l : List (Nat × List SV)} (h : FixIn M l) : FixIn (frozen M) l := fun x hx => by
  obtain ⟨h1, h2⟩ := h x hx
  refine ⟨?_, h2⟩
  rw [frozen_get, h1]
  rfl
theorem Has.ofFix {M : Mem} {l : List (Nat × List SV)} (h : FixIn M l) : Has (ro M) M (l.map fixE) := by
  refine ⟨fun _ _ h => h, fun x hx => ?_, ?_⟩
  · obtain ⟨y, hy, rfl⟩ := List.mem_map.1 hx
    exact h y hy
  · have : (l.map fixE).flatMap Ent.fp = [] := by
      induction l with
      | nil => rfl
      | cons a l ih => rw [List.map_cons, List.flatMap_cons, ih fun x hx => h x (List.mem_cons_of_mem _ hx)]; rfl
    rw [this]
    exact List.nodup_nil
theorem Has.fixIn {F : Rd} {M : Mem} {H : List Ent} {l : List (Nat × List SV)} (hH : Has F M H) (h : ∀ x ∈ l, fixE x ∈ H) : FixIn M l := fun x hx => hH.ok _ (h x hx)
theorem FixIn.rel {n : Nat} {l : List (Nat × List SV)} (hn : (l.all fun x => Nat.blt x.1 n) = true) (hp : (l.all fun x => plain.plains x.2) = true) {B : Nat} {m : Map} {M : Mem} {w : World} (hr : MRel B m M w) (h : FixIn M l) : ∃ m', MRel w.heap.size m' (memFix n l) w := by
  have hn' : ∀ x ∈ l, x.1 < n := by
    intro x hx
    have := List.all_eq_true.1 hn x hx
    exact Nat.le_of_ble_eq_true this
  have hpl : ∀ x ∈ l, plain.plains x.2 = true := fun x hx => List.all_eq_true.1 hp x hx
  refine ⟨fun b => Option.bind ((fixT l).get b) fun _ => m b, ?_⟩
  have hm : ∀ b p, Option.bind ((fixT l).get b) (fun _ => m b) = some p → ∃ x ∈ l, b = Pos.ofNat x.1 ∧ (fixT l).get b = some (.fix x.2) ∧ m b = some p := by
    intro b p hb
    obtain ⟨o, ho, hmb⟩ := Option.bind_eq_some_iff.1 hb
    obtain ⟨x, hx, h1, h2⟩ := fixT_get l b o ho
    subst h2
    exact ⟨x, hx, h1, ho, hmb⟩
  refine ⟨?_, ?_, ?_, ?_, ?_, Nat.le_refl _, ?_, Nat.zero_le _⟩
  · intro b o p ho hb
    obtain ⟨x, hx, rfl, hg, hmb⟩ := hm b p hb
    have ho' : (fixT l).get (Pos.ofNat x.1) = some o := ho
    rw [hg] at ho'
    simp only [Option.some.injEq] at ho'
    subst ho'
    obtain ⟨e, fz, pre, vs, post, g1, g2, g3, g4, g5, g6⟩ := hr.objs _ _ p (h x hx).1 hmb
    exact ⟨e, fz, pre, vs, post, g1, g2, g3, g4, (plains_conc (hpl x hx) _ _).trans g5, g6⟩
  · intro b b' o o' p p' ho ho' how _ _ _
    obtain ⟨x, _, _, rfl⟩ := fixT_get l b o ho
    obtain ⟨x', _, _, rfl⟩ := fixT_get l b' o' ho'
    rcases how with h | h <;> simp [SObj.own] at h
  · intro b hb
    have hnone : (fixT l).get b = none := by
      cases hg : (fixT l).get b with
      | none => rfl
      | some o =>
        obtain ⟨x, hx, rfl, _⟩ := fixT_get l b o hg
        have h1 : (Pos.ofNat n).num ≤ (Pos.ofNat x.1).num := hb
        rw [Pos.num_ofNat, Pos.num_ofNat] at h1
        have := hn' x hx
        omega
    refine ⟨?_, hnone⟩
    show Option.bind ((fixT l).get b) _ = none
    rw [hnone]
    rfl
  · intro b p hb
    obtain ⟨x, _, _, _, hmb⟩ := hm b p hb
    exact hr.bound b p hmb
  · intro b o p ho hown _
    obtain ⟨x, _, _, rfl⟩ := fixT_get l b o ho
    simp [SObj.own] at hown
  · intro b c hc
    have hc' : (fixT l).get b = some (.fix c) := hc
    obtain ⟨x, hx, rfl, h2⟩ := fixT_get l b _ hc'
    obtain ⟨z, hz, hl⟩ := hr.glob _ _ (h x hx).1
    refine ⟨z, ?_, by cases h2; exact hl⟩
    show Option.bind ((fixT l).get _) _ = _
    rw [hc']
    exact hz
theorem CallsM.closedFix {f : FuncId} {n : Nat} {l : List (Nat × List SV)} (hn : (l.all fun x => Nat.blt x.1 n) = true) (hp : (l.all fun x => plain.plains x.2) = true) (hc : ∀ w m, MRel w.heap.size m (memFix n l) w → Calls P f #[] w fun e w' => e = .returned (.bool true) ∧ Below w.heap.size w w') {M : Mem} (h : FixIn M l) : CallsM P f [] M fun s M' => s = .bool true ∧ M' = M := by
  intro hw
  refine ⟨.bool true, M, ?_, .refl hw, rfl, rfl⟩
  intro _ B m w vs hr has c cs
  have hvs : vs = #[] := by
    have := concs_nil m
    rw [this] at has
    have := Option.some.inj has
    exact (Array.toList_eq_nil_iff.1 this.symm)
  subst hvs
  obtain ⟨m1, hr1⟩ := FixIn.rel hn hp hr h
  obtain ⟨e, w', fr, ⟨rfl, hb⟩, hcome, hfn, hl⟩ := hc w m1 hr1 (c :: cs)
  exact ⟨m, w', .bool true, ⟨hr.kept hb, fun _ _ => rfl, fun _ _ _ => rfl, Nat.le_refl _, hb.mono hr.base, fun k hk _ => hb.block k hk, fun _ _ h => h, fun _ _ => rfl, rfl, fun _ _ h => h, fun b p hbn hp _ => absurd hp (by rw [(hr.fresh b hbn).1]; simp)⟩, rfl, Steps.trans hcome (.one (step_leave_returned hl))⟩
abbrev BRow := Option (Bool × Pl × List SV)
def objB (x : Bool × Pl × List SV) : SObj := bif x.1 then .fix x.2.2 else .ro x.2.2
def mapB (l : List BRow) : Map := fun b => match l[b.num - 1]? with
  | some (some x) => some x.2.1
  | _ => none
noncomputable def treeB : Nat → List BRow → Tree SObj
  | _, [] => .leaf
  | i, none :: l => treeB (i + 1) l
  | i, some x :: l => Tree.put (some (objB x)) (Pos.ofNat i) (treeB (i + 1) l)
theorem treeB_get (b : Pos) : ∀ (l : List BRow) (i : Nat), (treeB i l).get b = if i < b.num then (match l[b.num - (i + 1)]? with
  | some (some x) => some (objB x)
  | _ => none) else none
  | [], i => by rw [treeB, Tree.get_leaf]; simp
  | none :: l, i => by
    rw [treeB, treeB_get b l (i + 1)]
    by_cases h : i < b.num
    · rw [if_pos h]
      by_cases h1 : i + 1 < b.num
      · rw [if_pos h1, show b.num - (i + 1) = (b.num - (i + 1 + 1)) + 1 by omega, List.getElem?_cons_succ]
      · rw [if_neg h1, show b.num - (i + 1) = 0 by omega]; rfl
    · rw [if_neg h, if_neg (by omega)]
  | some x :: l, i => by
    rw [treeB, Tree.get_put, treeB_get b l (i + 1)]
    by_cases e : Pos.ofNat i = b
    · have hn : b.num = i + 1 := by rw [← e, Pos.num_ofNat]
      rw [if_pos e, if_pos (by omega), show b.num - (i + 1) = 0 by omega]; rfl
    · rw [if_neg e]
      by_cases h : i < b.num
      · have hne : b.num ≠ i + 1 := by
          intro hn
          exact e (Pos.num_inj (by rw [Pos.num_ofNat, hn]))
        rw [if_pos h, if_pos (by omega), show b.num - (i + 1) = (b.num - (i + 1 + 1)) + 1 by omega, List.getElem?_cons_succ]
      · rw [if_neg h, if_neg (by omega)]
noncomputable def memB (l : List BRow) : Mem := ⟨treeB 0 l, Pos.ofNat l.length, l.length + 1⟩
theorem memB_get {l : List BRow} {b : Pos} {o : SObj} (h : (memB l).t.get b = some o) : ∃ x, l[b.num - 1]? = some (some x) ∧ o = objB x := by
  have h' : (treeB 0 l).get b = some o := h
  rw [treeB_get, if_pos (by have := b.num_pos; omega), Nat.zero_add] at h'
  split at h'
  · rename_i x hx
    exact ⟨x, hx, (Option.some.inj h').symm⟩
  · simp at h'
theorem mapB_get {l : List BRow} {b : Pos} {p : Pl} (h : mapB l b = some p) : ∃ x, l[b.num - 1]? = some (some x) ∧ p = x.2.1 := by
  unfold mapB at h
  split at h
  · rename_i x hx
    exact ⟨x, hx, (Option.some.inj h).symm⟩
  · simp at h
theorem memB_at {l : List BRow} {j : Nat} {x : Bool × Pl × List SV} (h : l[j]? = some (some x)) : (memB l).t.get (Pos.ofNat j) = some (objB x) ∧ (Pos.ofNat j).num < (memB l).next.num := by
  have hj : j < l.length := (List.getElem?_eq_some_iff.1 h).1
  refine ⟨?_, ?_⟩
  · show (treeB 0 l).get (Pos.ofNat j) = _
    rw [treeB_get, Pos.num_ofNat, if_pos (by omega), show j + 1 - (0 + 1) = j by omega, h]
  · show (Pos.ofNat j).num < (Pos.ofNat l.length).num
    rw [Pos.num_ofNat, Pos.num_ofNat]; omega
theorem memB_fix {l : List BRow} {j : Nat} {p : Pl} {c : List SV} (h : l[j]? = some (some (true, p, c))) : (memB l).t.get (Pos.ofNat j) = some (.fix c) ∧ (Pos.ofNat j).num < (memB l).next.num := memB_at h
theorem fix_row {W : World} {l : List (Nat × List SV)} (h : FixOK W l) {x : Nat × List SV} (hx : x ∈ l) : x.1 < W.heap.size ∧ ∀ m, RowRel m ⟨x.1, 0, x.2.length⟩ none .lost x.2 W.heap[x.1]? := by
  obtain ⟨e, vs, hh, hc⟩ := h x hx
  have hl := concs_length hc
  exact ⟨(Array.getElem?_eq_some_iff.1 hh).1, fun m => ⟨e, (0, 0), [], vs, [], by simp [hh], trivial, rfl, by simp [hl], concs_ext (fun _ _ hb => by simp at hb) _ _ hc, fun t ht => by simp at ht⟩⟩
def argB (r : ARow) : BRow := r.map fun x => (false, x.1, x.2)
end Go.Ev
namespace Go.Ev
theorem ex_nilP {P : Program} {M : Mem} {e : Env} {x : Operand} {b : Pos} {o : Nat} (h : ar e x = some (.ptr b o)) : execO P M (treeOf e) (.nilCheck x) = .val (.ptr b o) M := by
  show with1 (arg M (treeOf e) x) (fun x => xNil2 P x M) = _
  rw [ar_arg h]
  rfl
end Go.Ev
namespace Go.Ev
open Go.RowKit
variable {P : Program}
def Rows {α : Type} (R : List SV → α → Prop) (z : Nat) (c : List SV) (l : List α) : Prop := c.length = l.length * z ∧ ∀ (i : Nat) (a : α), l[i]? = some a → R ((c.drop (i * z)).take z) a
section
variable {α : Type} {R R' : List SV → α → Prop} {z : Nat} {c c2 cs : List SV} {l l2 : List α} {a : α}
theorem Rows.nil : Rows R z [] [] := ⟨by simp, fun i a h => by simp at h⟩
theorem Rows.one (hl : cs.length = z) (h : R cs a) : Rows R z cs [a] := by
  refine ⟨by simp [hl], fun i b hb => ?_⟩
  cases i with
  | zero =>
    simp only [List.getElem?_cons_zero, Option.some.injEq] at hb
    subst hb
    simpa [List.take_of_length_le (Nat.le_of_eq hl)] using h
  | succ i => simp at hb
theorem Rows.mono (h : Rows R z c l) (hR : ∀ cs a, R cs a → R' cs a) : Rows R' z c l := ⟨h.1, fun i a ha => hR _ _ (h.2 i a ha)⟩
theorem Rows.append (h : Rows R z c l) (h2 : Rows R z c2 l2) : Rows R z (c ++ c2) (l ++ l2) := by
  refine ⟨by rw [List.length_append, List.length_append, h.1, h2.1, Nat.add_mul], fun i a ha => ?_⟩
  by_cases hi : i < l.length
  · rw [List.getElem?_append_left hi] at ha
    have := h.2 i a ha
    have hle : (i + 1) * z ≤ l.length * z := Nat.mul_le_mul_right z hi
    rw [Nat.succ_mul] at hle
    rw [List.drop_append_of_le_length (by rw [h.1]; omega), List.take_append_of_le_length (by rw [List.length_drop, h.1]; omega)]
    exact this
  · rw [List.getElem?_append_right (by omega)] at ha
    have := h2.2 _ a ha
    have e : i * z = c.length + (i - l.length) * z := by rw [h.1, ← Nat.add_mul]; congr 1; omega
    rw [e, ← List.drop_drop, List.drop_left]
    exact this
theorem Rows.set {i : Nat} (h : Rows R z c l) (hi : i < l.length) (hl : cs.length = z) (hr : R cs a) : Rows R z (c.take (i * z) ++ (cs ++ c.drop (i * z + z))) (l.set i a) := by
  have hle : (i + 1) * z ≤ l.length * z := Nat.mul_le_mul_right z hi
  rw [Nat.succ_mul] at hle
  have hc := h.1
  refine ⟨by simp only [List.length_append, List.length_take, List.length_drop, List.length_set, hl, hc]; omega, fun j b hb => ?_⟩
  have hjl : j < l.length := by have := (List.getElem?_eq_some_iff.1 hb).1; rwa [List.length_set] at this
  have hj2 : (j + 1) * z ≤ l.length * z := Nat.mul_le_mul_right z hjl
  rw [Nat.succ_mul] at hj2
  by_cases hij : i = j
  · subst hij
    rw [List.getElem?_set_self hi] at hb
    simp only [Option.some.injEq] at hb
    subst hb
    have e1 : (c.take (i * z)).length = i * z := by rw [List.length_take]; omega
    rw [List.drop_append_of_le_length (by omega), List.drop_of_length_le (by omega), List.nil_append, List.take_append_of_le_length (by omega), List.take_of_length_le (by omega)]
    exact hr
  · rw [List.getElem?_set_ne hij] at hb
    have := h.2 j b hb
    rcases Nat.lt_or_gt_of_ne hij with hlt | hlt
    · have h3 : (i + 1) * z ≤ j * z := Nat.mul_le_mul_right z hlt
      rw [Nat.succ_mul] at h3
      have e1 : (c.take (i * z)).length = i * z := by rw [List.length_take]; omega
      rw [List.drop_append, List.drop_of_length_le (by omega), List.nil_append, e1, List.drop_append, List.drop_of_length_le (by omega), List.nil_append, hl, List.drop_drop]
      rw [show i * z + z + (j * z - i * z - z) = j * z by omega]
      exact this
    · have h3 : (j + 1) * z ≤ i * z := Nat.mul_le_mul_right z hlt
      rw [Nat.succ_mul] at h3
      have e1 : (c.take (i * z)).length = i * z := by rw [List.length_take]; omega
      rw [List.drop_append_of_le_length (by omega), List.take_append_of_le_length (by rw [List.length_drop]; omega), List.drop_take, List.take_take, Nat.min_eq_left (by omega)]
      exact this
theorem Rows.at {i : Nat} (h : Rows R z c l) (hi : l[i]? = some a) : ∃ cs, (c.drop (i * z)).take z = cs ∧ cs.length = z ∧ R cs a := by
  refine ⟨_, rfl, ?_, h.2 i a hi⟩
  have hlt := (List.getElem?_eq_some_iff.1 hi).1
  have hle : (i + 1) * z ≤ l.length * z := Nat.mul_le_mul_right z hlt
  rw [Nat.succ_mul] at hle
  rw [List.length_take, List.length_drop, h.1]
  omega
theorem Rows.len (h : Rows R z c l) : c.length = l.length * z := h.1
theorem Rows.cons (hl : cs.length = z) (h : R cs a) (h2 : Rows R z c2 l2) : Rows R z (cs ++ c2) (a :: l2) := (Rows.one hl h).append h2
theorem Rows.tail (h : Rows R z c (a :: l)) : R (c.take z) a ∧ Rows R z (c.drop z) l := by
  refine ⟨by simpa using h.2 0 a rfl, ?_, fun i b hb => ?_⟩
  · rw [List.length_drop, h.1, List.length_cons, Nat.succ_mul]; omega
  · have := h.2 (i + 1) b (by simpa using hb)
    rw [Nat.succ_mul] at this
    rw [List.drop_drop, show z + i * z = i * z + z by omega]
    exact this
theorem ones_app : ∀ {p q : List SV}, ones p = true → ones q = true → ones (p ++ q) = true
  | [], _, _, h => h
  | s :: p, q, h, h' => by
    have h0 : Bool.rec (motive := fun _ => Bool) false (ones p) (one s) = true := h
    cases hs : one s with
    | false => rw [hs] at h0; simp at h0
    | true => rw [hs] at h0; exact ones_cons hs (ones_app h0 h')
theorem Rows.ones (h1 : ∀ cs a, R cs a → Go.Ev.ones cs = true) : ∀ {l : List α} {c : List SV}, Rows R z c l → Go.Ev.ones c = true
  | [], c, h => by
    have : c = [] := List.eq_nil_of_length_eq_zero (by rw [h.1]; simp)
    rw [this]; rfl
  | a :: l, c, h => by
    obtain ⟨g1, g2⟩ := h.tail
    rw [← List.take_append_drop z c]
    exact ones_app (h1 _ _ g1) (Rows.ones h1 g2)
theorem slc_rows {f : Rd} {s : SV} {M : Mem} (h : Slc f z R s l) (hf : RdLe f (rowOf M)) : ∃ c, firstS M z l.length s = some c ∧ Rows R z c l := by
  rcases h with ⟨rfl | ⟨_, _, _, rfl⟩ | ⟨_, rfl⟩, rfl⟩ | ⟨b, off, c, hs, hc, hle, hel⟩
  · exact ⟨[], rfl, .nil⟩
  · exact ⟨[], rfl, .nil⟩
  · exact ⟨[], rfl, .nil⟩
  · have hr := hf b c hc
    have hb' : Nat.ble (Nat.add off (l.length * z)) (len c) = true := by
      rw [len_eq]
      exact Nat.ble_eq_true_of_le hle
    refine ⟨(c.drop off).take (l.length * z), ?_, by rw [List.length_take, List.length_drop]; omega, fun i a ha => ?_⟩
    · rcases hs with ⟨cap, _, rfl⟩ | rfl
      · unfold firstS
        simp only [hr, tk_eq, dp_eq, Nat.mul_eq, hb']
      · unfold firstS
        simp only [hr, tk_eq, dp_eq, Nat.mul_eq, hb']
    · have := hel i a ha
      have hlt := (List.getElem?_eq_some_iff.1 ha).1
      have hle2 : (i + 1) * z ≤ l.length * z := Nat.mul_le_mul_right z hlt
      rw [Nat.succ_mul] at hle2
      rw [List.drop_take, List.drop_drop, List.take_take, Nat.min_eq_left (by omega)]
      exact this
end
section
variable {α : Type} {F : Rd} {H : List Ent} {M : Mem} {e : Env} {t u : TypeId} {p q : Operand} {f : Rd} {s sv : SV} {l l' : List α} {z i : Nat} {R : List SV → α → Prop} {tt : TypeId} {c : List SV} {kk : IntKind} {a : Int} {el : α}
theorem Has.slcR (hH : Has F M H) (hi : H[i]? = some (.vec tt z l.length sv c)) (hc : Rows R z c l) : Slc (rd M) z R sv l := by
  rcases hH.get hi with ⟨rfl, h0, _⟩ | ⟨b, hsv, hcl, ho⟩
  · exact .inl ⟨.inl rfl, List.length_eq_zero_iff.1 h0⟩
  · refine .inr ⟨b, 0, _, ?_, ho.rd, by rw [hcl]; omega, fun i a ha => by rw [Nat.zero_add]; exact hc.2 i a ha⟩
    rcases hsv with h | h
    · exact .inl ⟨_, Nat.le_refl _, h⟩
    · exact .inr h
theorem vec_placeR {j : Nat} (hH : Has F M H) (hi : H[i]? = some (.vec tt z l.length sv c)) (ha : inn l a = some j) (hz : elems P t = some (.sl z)) :
    ∃ b, blk sv = [b] ∧ ∀ M', xIndexAddr P t sv (.int kk a) M' = .val (.ptr b (0 + j * z)) M' := by
  obtain ⟨rfl, hlt⟩ := inn_some ha
  rcases hH.get hi with ⟨rfl, h0, _⟩ | ⟨b, hsv, hc, ho⟩
  · omega
  · refine ⟨b, by rcases hsv with rfl | rfl <;> rfl, fun M' => ?_⟩
    rcases hsv with rfl | rfl
    · unfold xIndexAddr
      simp only [hz, natIn_lt hlt]
      rfl
    · unfold xIndexAddr
      simp only [hz, natIn_lt hlt]
      rfl
theorem vec_elemR (hH : Has F M H) (hi : H[i]? = some (.vec tt z l.length sv c)) (ha : idx l a = some el) (hz : elems P t = some (.sl z)) :
    ∃ b j, blk sv = [b] ∧ (∀ M', xIndexAddr P t sv (.int kk a) M' = .val (.ptr b (0 + j * z)) M') ∧ l[j]? = some el := by
  obtain ⟨j, rfl, hlt, hel⟩ := idx_some ha
  have hin : inn l (j : Int) = some j := by
    show (bif Nat.blt j l.length then some j else none) = some j
    rw [show Nat.blt j l.length = true from Nat.ble_eq_true_of_le hlt]
    rfl
  obtain ⟨b, h1, h2⟩ := vec_placeR (kk := kk) hH hi hin hz
  exact ⟨b, j, h1, h2, hel⟩
theorem Has.atR {j : Nat} {b : Pos} {n : Nat} {cs : List SV} (hH : Has F M H) (hi : H[i]? = some (.vec tt z n sv c)) (hb : blk sv = [b]) (hcs : (c.drop (j * z)).take z = cs) (hl : cs.length = z) : PtrTo (rowOf M) (.ptr b (0 + j * z)) cs := by
  rcases hH.get hi with ⟨rfl, _⟩ | ⟨d, hsv, _, ho⟩
  · simp [blk] at hb
  · have hbb : d = b := by rcases hsv with rfl | rfl <;> (simp only [blk, List.cons.injEq, and_true] at hb; exact hb)
    subst hbb
    subst hcs
    refine ⟨d, 0 + j * z, c, rfl, ho.row, ?_, ?_⟩
    · rw [hl]
      rw [List.length_take, List.length_drop] at hl
      rcases Nat.eq_zero_or_pos z with rfl | hz
      · simp
      · omega
    · rw [hl, Nat.zero_add]
theorem ExG.appendR {n n2 : Nat} {el : Elt} {s2 : SV} {c2 : List SV} (h : ar e p = some s) (h' : ar e q = some s2) (hH : Has F M H) (hi : H[i]? = some (.vec el.ty z n s c)) (hz1 : Nat.ble 1 z = true) (hone : ones c2 = true) (hx : appT P t u = some el) (hsz : el.size = z)
    (hlz : lenZ el s2 = some n2) (hnew : firstS M z n2 s2 = some c2) (hc2 : c2.length = n2 * z) (hl1 : n + n2 ≤ 4611686018427387904) (hl2 : 2 * (n + n2) * el.bytes ≤ 281474976710656) :
    ExG P M e (.call ⟨.builtin .append, #[p, q], #[t, u]⟩) fun s' M' => Has F M' (H.set i (.vec el.ty z (n + n2) s' (c ++ c2))) := by
  intro hw
  have hz1' := Nat.le_of_ble_eq_true hz1
  have hxx : execO P M (treeOf e) (.call ⟨.builtin .append, #[p, q], #[t, u]⟩) = xAppend P t u s s2 M := by
    rw [ex_builtin (l := [s, s2]) (by show ars e [p, q] = _; simp only [ars, h, h'])]
    rfl
  rw [← hsz] at hnew
  have hsame : n2 = 0 → Has F M (H.set i (.vec el.ty z (n + n2) s (c ++ c2))) := by
    intro h0
    subst h0
    have : c2 = [] := List.eq_nil_of_length_eq_zero (by rw [hc2]; omega)
    subst this
    rw [List.append_nil]
    obtain ⟨hlt, he⟩ := List.getElem?_eq_some_iff.1 hi
    rw [Nat.add_zero, ← he, List.set_getElem_self]
    exact hH
  have hcl : c.length = n * z := by
    rcases hH.get hi with ⟨_, h0, hc0⟩ | ⟨_, _, hc, _⟩
    · rw [h0, hc0]; simp
    · exact hc
  have hlenR : (c ++ c2).length = (n + n2) * z := by rw [List.length_append, hcl, hc2, Nat.add_mul]
  have hnewrow : ∀ (M1 : Mem), M1.next = M.next → M1.floor = M.floor → WF M1 → RoK M M1 → (∀ b o, b ∉ (Ent.vec el.ty z n s c).fp → Own M b o → Own M1 b o) →
      Has F ⟨M1.t.put (some (.row el.ty (.head 0) (c ++ c2))) M1.next, M1.next.succ, M1.floor⟩ (H.set i (.vec el.ty z (n + n2) (.ope M.next 0 (n + n2) el.size) (c ++ c2))) := by
    intro M1 e1 e2 hw1 hro hk
    have hm := hw1.memLe_new (.row el.ty (.head 0) (c ++ c2))
    refine hH.upd hi (hro.trans hm.rok) (fun b o hb hbo => hm.own b o (hk b o hb hbo)) (.inr ⟨M.next, .inr (by rw [hsz]), hlenR, ?_⟩) fun b hb => ?_
    · rw [← e1]
      exact hw1.own_new _
    · simp only [Ent.fp, blk, List.mem_cons, List.not_mem_nil, or_false] at hb
      subst hb
      exact .inr (Nat.le_refl _)
  have hgrow : ∀ M1 : Mem, grow (.head 0) M1 el (n + n2) (c ++ c2) = .val (.ope M1.next 0 (n + n2) el.size) ⟨M1.t.put (some (.row el.ty (.head 0) (c ++ c2))) M1.next, M1.next.succ, M1.floor⟩ := by
    intro M1
    exact grow_eq hl1 hl2 (by omega)
  rcases hH.get hi with ⟨rfl, h0, hc0⟩ | ⟨bb, hs, hlc, hown⟩
  · cases hn2 : n2 with
    | zero =>
      subst hn2
      have hc2' : c2 = [] := List.eq_nil_of_length_eq_zero (by rw [hc2]; omega)
      subst hc2'
      exact ⟨.nils, M, by rw [hxx]; exact xAppend_nil0 hx hlz hnew, .refl hw, hsame rfl⟩
    | succ r0 =>
      rw [← hn2]
      have hg := hgrow M
      have e0 : n + n2 = n2 := by rw [h0]; omega
      refine ⟨_, _, ?_, hw.anew _, hnewrow M rfl rfl hw (.refl M) (fun _ _ _ h => h)⟩
      rw [hxx]
      have := xAppend_nilS (P := P) (M := M) (t := t) (u := u) (el := el) (s2 := s2) (j := r0) (new := c2) hx (by rw [← hn2]; exact hlz) (by rw [← hn2]; exact hnew)
      rw [this, show r0 + 1 = n + n2 by omega]
      rw [hc0, List.nil_append] at hg ⊢
      exact hg
  · have hrow : rowOf M bb = some c := hown.row
    have hle' : Nat.ble (Nat.add 0 (n * el.size)) (len c) = true := by
      rw [len_eq, hlc, hsz]
      exact Nat.ble_eq_true_of_le (by simp)
    have htake : c.take (n * el.size) = c := List.take_of_length_le (by rw [hlc, hsz]; exact Nat.le_refl _)
    rcases hs with rfl | rfl
    · have hfirst : firstS M el.size n (.slice bb 0 n n) = some c := by
        unfold firstS
        simp only [hrow, tk_eq, dp_eq, Nat.mul_eq, List.drop_zero, hle', htake]
      cases hn2 : n2 with
      | zero =>
        subst hn2
        have hc2' : c2 = [] := List.eq_nil_of_length_eq_zero (by rw [hc2]; omega)
        subst hc2'
        refine ⟨.slice bb 0 n n, M, ?_, .refl hw, hsame rfl⟩
        rw [hxx]
        unfold xAppend
        have g2 : lenZ el s2 = some 0 := hlz
        have g3 : firstS M el.size 0 s2 = some [] := hnew
        have g4 : Nat.ble (Nat.add n 0) n = true := Nat.ble_eq_true_of_le (Nat.le_refl _)
        simp only [hx, g2, g3, g4]
        rfl
      | succ r0 =>
        rw [← hn2]
        refine ⟨_, _, ?_, hw.anew _, hnewrow M rfl rfl hw (.refl M) (fun _ _ _ h => h)⟩
        rw [hxx]
        unfold xAppend
        have g4 : Nat.ble (Nat.add n n2) n = false := by
          cases hb : Nat.ble (Nat.add n n2) n with
          | false => rfl
          | true => have h9 : n + n2 ≤ n := Nat.le_of_ble_eq_true hb; omega
        simp only [hx, hlz, hnew, g4, hfirst, app_eq]
        exact hgrow M
    · have hfirst : firstS M el.size n (.ope bb 0 n z) = some c := by
        unfold firstS
        simp only [hrow, tk_eq, dp_eq, Nat.mul_eq, List.drop_zero, hle', htake]
      have hok : ownK M bb = some (el.ty, .head 0) := by
        unfold ownK
        have ha : above M bb = true := Nat.ble_eq_true_of_le hown.low
        simp only [hown.get, ha]
      cases hn2 : n2 with
      | zero =>
        subst hn2
        have hc2' : c2 = [] := List.eq_nil_of_length_eq_zero (by rw [hc2]; omega)
        subst hc2'
        exact ⟨.ope bb 0 n z, M, by rw [hxx]; exact xAppend_ope0 hx hlz hnew (by rw [hsz]; exact Nat.beq_refl z) hok hfirst, .refl hw, hsame rfl⟩
      | succ r0 =>
        rw [← hn2]
        have hdrop : dropRow M bb = ⟨M.t.put none bb, M.next, M.floor⟩ := by cases M; rfl
        have hw0 := hw.put (o := none) hown.low hown.lt
        have hw1 : WF ⟨M.t.put none bb, M.next, M.floor⟩ := hw0.wf
        refine ⟨_, _, ?_, hw0.trans (hw1.anew _), hnewrow ⟨M.t.put none bb, M.next, M.floor⟩ rfl rfl hw1 (put_ro hown rfl) (fun b o hb hbo => put_keep b o hb hbo)⟩
        rw [hxx]
        have f2 : Nat.beq el.ty el.ty = true := Nat.beq_refl _
        have f3 : frzOK (.head 0) (Nat.add 0 (Nat.mul n el.size)) = true := rfl
        have h5 := xAppend_opeS (P := P) (M := M) (t := t) (u := u) (el := el) (s2 := s2) (j := r0) (off := 0) (q := n) (z := z) (bb := bb) (new := c2) (old := c) hx (by rw [← hn2]; exact hlz) (by rw [← hn2]; exact hnew) (by rw [hsz]; exact Nat.beq_refl z) hok hfirst hone f2 f3
        rw [h5, ← hn2, hdrop, app_eq]
        exact hgrow ⟨M.t.put none bb, M.next, M.floor⟩
theorem ExG.appendQ {el : Elt} {s2 : SV} {l2 : List α} (h : ar e p = some s) (h' : ar e q = some s2) (hH : Has F M H) (hi : H[i]? = some (.vec el.ty z l.length s c)) (hc : Rows R z c l) (h1 : ∀ cs a, R cs a → ones cs = true) (hz1 : Nat.ble 1 z = true) (hx : appT P t u = some el) (hsz : el.size = z)
    (h2 : Slc f z R s2 l2) (hf : RdLe f (rowOf M)) (hl : apd el.bytes l l2 = some l') :
    ExG P M e (.call ⟨.builtin .append, #[p, q], #[t, u]⟩) fun s' M' => ∃ c', Rows R z c' l' ∧ Has F M' (H.set i (.vec el.ty z l'.length s' c')) := by
  intro hw
  obtain ⟨g1, g2, rfl⟩ := apd_some hl
  obtain ⟨c2, hn, hr⟩ := slc_rows h2 hf
  obtain ⟨v, M', k1, k2, k3⟩ := ExG.appendR h h' hH hi hz1 (hr.ones h1) hx hsz (len_slc h2) hn hr.1 g1 g2 hw
  exact ⟨v, M', k1, k2, c ++ c2, hc.append hr, by rw [List.length_append]; exact k3⟩
theorem ExG.builtR {el : Elt} {j : Nat} {ps : Array (Nat × Operand)} {r : List (Nat × SV)} (h : pars e ps.toList = some r) (hx : sliceElt P t = some el) (hj : Nat.ble (j * el.size) 16777216 = true) (hf : fillS (fun i => some (Nat.mul i el.size, el.size)) (rep j el.zero) r = some c) (hc : c.length = j * z) (hH : Has F M H) :
    ExG P M e (.buildSlice t j ps) fun s M' => Has F M' (.vec el.ty z j s c :: H) :=
  ExG.newVec (ex_buildSlice h hx hj hf) hc hH
end
section
variable {fx : Fx} {n : Nat} {Q : SV → Mem → Prop} {e : Env} {k : List SItem} {M : Mem} {F : Rd} {H : List Ent}
theorem Run.frozeAt {b : Pos} {tt : TypeId} {rk : RK} {c : List SV} {t : Nat} {v : SV} (ht : lk t e = some v) (hv : ∀ m : Map, m b = none → conc m v = none) (ho : Own M b (.row tt rk c)) (hrun : Run P fx n Q e k ⟨M.t.put (some (.ro c)) b, M.next, M.floor⟩) : Run P fx n Q e k M := by
  intro hw
  have ha : Aft M ⟨M.t.put (some (.ro c)) b, M.next, M.floor⟩ := hw.put ho.low ho.lt
  obtain ⟨s, M', hq, ha2, hto⟩ := hrun ha.wf
  refine ⟨s, M', hq, ha.trans ha2, ?_⟩
  intro hmix B m w fr frs cs0 hr hf hcs
  have hpl : m b ≠ none := by
    intro hm
    obtain ⟨c, tm, todo, rfl, hcx, htr, hn, hk⟩ := hf
    obtain ⟨u, _, hu⟩ := htr t v (by rw [treeOf_get]; exact ht)
    rw [hv m hm] at hu
    simp at hu
  have hst := Stepped.froze hr ho hpl
  obtain ⟨fr', w', m', x, g1, g2, g3, g4, g5⟩ := hto hmix B m w fr frs cs0 hst.rel hf hcs
  exact ⟨fr', w', m', x, g1, hst.trans g2, g3, g4, g5⟩
theorem Run.freezeO {i t off : Nat} {b : Pos} {tt : TypeId} {rk : RK} {c : List SV} (ht : lk t e = some (.ptr b off)) (hH : Has F M H) (hi : H[i]? = some (.obj b (.row tt rk c)))
    (next : ∀ F' M', RdLe F F' → Has F' M' (H.set i (.vec 0 0 0 .nils [])) → PtrTo F' (.ptr b 0) c → Run P fx n Q e k M') : Run P fx n Q e k M := by
  have ho := (hH.get hi).1
  have hnx := hH.upd (y := .vec 0 0 0 .nils []) (M' := ⟨M.t.put (some (.ro c)) b, M.next, M.floor⟩) hi (put_ro ho rfl) (fun c o hcn hco => put_keep c o hcn hco) (.inl ⟨rfl, rfl, rfl⟩) (fun b hb => by simp [Ent.fp, blk] at hb)
  have hro : ro ⟨M.t.put (some (.ro c)) b, M.next, M.floor⟩ b = some c := ro_mk ho.lt (.inl (Tree.get_put_same _ _ _))
  exact Run.frozeAt ht (fun m hm => by simp [conc, hm]) ho (next _ _ hnx.base (hnx.upF fun _ _ h => h) ⟨b, 0, c, rfl, hro, by simp, by simp⟩)
end
section
variable {K V : Type} {ke : K → SV} {ve : V → SV} {eq : K → K → Bool}
def mapES (ke : K → SV) (ve : V → SV) : Nat → List (K × V) → List (SV × SV × Nat)
  | _, [] => []
  | i, x :: l => (ke x.1, ve x.2, i) :: mapES ke ve (i + 1) l
def mfind (eq : K → K → Bool) (k : K) : List (K × V) → Nat → Option (Nat × V)
  | [], _ => none
  | x :: l, i => bif eq k x.1 then some (i, x.2) else mfind eq k l (i + 1)
def mput (eq : K → K → Bool) (l : List (K × V)) (k : K) (v : V) : List (K × V) := match mfind eq k l 0 with
  | some x => l.set x.1 (k, v)
  | none => l ++ [(k, v)]
theorem findS_map {kt : TypeId} {k : K} (hq : ∀ a b, keyEq P kt (ke a) (ke b) = some (eq a b)) (hE : ∀ a b, eq a b = true → a = b) : ∀ (l : List (K × V)) (i j : Nat), findS P kt (ke k) (mapES ke ve j l) i = some ((mfind eq k l i).map fun x => (x.1, ke k, ve x.2))
  | [], i, j => rfl
  | x :: l, i, j => by
    simp only [mapES, findS, hq, mfind]
    cases hk : eq k x.1 with
    | true => rw [← hE _ _ hk]; rfl
    | false => exact findS_map hq hE l (i + 1) (j + 1)
theorem mapES_app (l : List (K × V)) (k : K) (v : V) : ∀ j, mapES ke ve j l ++ [(ke k, ve v, j + l.length)] = mapES ke ve j (l ++ [(k, v)]) := by
  induction l with
  | nil => intro j; rfl
  | cons x l ih =>
    intro j
    simp only [mapES, List.cons_append, List.length_cons]
    rw [← ih (j + 1), show j + (l.length + 1) = j + 1 + l.length by omega]
theorem mfind_lt (k : K) : ∀ (l : List (K × V)) (i : Nat) {x : Nat × V}, mfind eq k l i = some x → ∃ n a, x.1 = i + n ∧ n < l.length ∧ l[n]? = some (a, x.2) ∧ eq k a = true
  | [], _, _, h => by simp [mfind] at h
  | y :: l, i, x, h => by
    unfold mfind at h
    cases hk : eq k y.1 with
    | true =>
      rw [hk] at h
      simp only [cond_true, Option.some.injEq] at h
      subst h
      exact ⟨0, y.1, rfl, by simp, rfl, hk⟩
    | false =>
      rw [hk] at h
      obtain ⟨n, a, h1, h2, h3, h4⟩ := mfind_lt k l (i + 1) (show mfind eq k l (i + 1) = some x from h)
      exact ⟨n + 1, a, by omega, by simp; omega, by simpa using h3, h4⟩
theorem setE_map (k : K) (v : V) : ∀ (l : List (K × V)) (n j : Nat) (a : K) (u : V), l[n]? = some (a, u) → a = k → setE (ve v) n (mapES ke ve j l) = mapES ke ve j (l.set n (k, v))
  | [], n, j, a, u, h, _ => by simp at h
  | x :: l, 0, j, a, u, h, hk => by
    simp only [List.getElem?_cons_zero, Option.some.injEq] at h
    subst h hk
    rfl
  | x :: l, n + 1, j, a, u, h, hk => by
    simp only [mapES, setE, List.set_cons_succ]
    rw [setE_map k v l n (j + 1) a u (by simpa using h) hk]
variable {F : Rd} {H : List Ent} {M : Mem} {e : Env} {t : TypeId} {p q r : Operand} {i : Nat} {b : Pos} {l : List (K × V)} {kt et : TypeId} {k : K} {v : V}
theorem ExG.makeMap (ke : K → SV) (ve : V → SV) (hH : Has F M H) : ExG P M e (.makeMap t none) fun s M' => ∃ b, s = .map b ∧ Has F M' (.obj b (.map (mapES ke ve 0 ([] : List (K × V))) 0) :: H) := by
  intro hw
  refine ⟨.map M.next, ⟨M.t.put (some (.map [] 0)) M.next, M.next.succ, M.floor⟩, ?_, hw.anew _, M.next, rfl, hH.newObj hw rfl⟩
  show xMakeMap M = _
  unfold xMakeMap
  rw [nextOf_eq]
theorem map_own (hH : Has F M H) {es : List (SV × SV × Nat)} {c : Nat} (hi : H[i]? = some (.obj b (.map es c))) : mapOf M b = some (es, c) ∧ mapOwn M b = some (es, c) := by
  obtain ⟨ho, _⟩ := hH.get hi
  have h1 : mapOf M b = some (es, c) := by unfold mapOf; rw [ho.get]
  refine ⟨h1, ?_⟩
  unfold mapOwn
  have ha : above M b = true := Nat.ble_eq_true_of_le ho.low
  rw [ha]
  exact h1
theorem ExG.mapUpdate (h : ar e p = some (.map b)) (h' : ar e q = some (ke k)) (h'' : ar e r = some (ve v)) (hH : Has F M H) (hi : H[i]? = some (.obj b (.map (mapES ke ve 0 l) l.length))) (ht : mapT P t = some (kt, et)) (hok : keyOK P 8 kt (ke k) = true) (hq : ∀ a b, keyEq P kt (ke a) (ke b) = some (eq a b)) (hE : ∀ a b, eq a b = true → a = b) (hp : keyPlain (ke k) = true) (hs : selfB (ke k) = true) :
    ExG P M e (.mapUpdate t p q r) fun s M' => s = .tuple [] ∧ Has F M' (H.set i (.obj b (.map (mapES ke ve 0 (mput eq l k v)) (mput eq l k v).length))) := by
  intro hw
  have ho := (hH.get hi).1
  have hx : execO P M (treeOf e) (.mapUpdate t p q r) = xMapUpdate P t (.map b) (ke k) (ve v) M := by
    show with1 (arg M (treeOf e) p) (fun x => with1 (arg M (treeOf e) q) fun k => with1 (arg M (treeOf e) r) fun v => xMapUpdate P t x k v M) = _
    rw [ar_arg h, ar_arg h', ar_arg h'']
    rfl
  have hout : xMapUpdate P t (.map b) (ke k) (ve v) M = .val (.tuple []) (putObj M b (.map (mapES ke ve 0 (mput eq l k v)) (mput eq l k v).length)) := by
    unfold xMapUpdate
    simp only [ht, hok, (map_own hH hi).2, findS_map hq hE]
    unfold mput
    cases hf : mfind eq k l 0 with
    | none =>
      have := mapES_app (ke := ke) (ve := ve) l k v 0
      rw [Nat.zero_add] at this
      simp only [Option.map_none, this, List.length_append, List.length_cons, List.length_nil]
    | some x =>
      obtain ⟨n, a, h1, h2, h3, h4⟩ := mfind_lt k l 0 hf
      have h5 := setE_map (ke := ke) (ve := ve) k v l n 0 a x.2 h3 (hE _ _ h4).symm
      rw [Nat.zero_add] at h1
      simp only [Option.map_some, beqSV_self hs, hp, h1, h5, List.length_set]
  refine ⟨_, _, hx.trans hout, ?_, rfl, ?_⟩
  · rw [putObj_eq]; exact hw.put ho.low ho.lt
  · rw [putObj_eq]; exact hH.putObj hi rfl
end
end Go.Ev
namespace Go.Ev
open Go.RowKit
def cutA {α : Type} (n : Nat) (l : List α) (off : Nat) (hi : Int) : Option (List α) := match hi with
  | .ofNat h => bif Nat.ble h n && Nat.ble (off + h) l.length then some ((l.drop off).take h) else none
  | .negSucc _ => none
theorem cutA_some {α : Type} {n off : Nat} {l l' : List α} {hi : Int} (h : cutA n l off hi = some l') : ∃ q : Nat, hi = q ∧ q ≤ n ∧ off + q ≤ l.length ∧ l' = (l.drop off).take q := by
  cases hi with
  | negSucc _ => simp [cutA] at h
  | ofNat q =>
    unfold cutA at h
    simp only at h
    cases hb : (Nat.ble q n && Nat.ble (off + q) l.length) with
    | false => rw [hb] at h; simp at h
    | true =>
      rw [hb] at h
      rw [Bool.and_eq_true] at hb
      exact ⟨q, rfl, Nat.le_of_ble_eq_true hb.1, Nat.le_of_ble_eq_true hb.2, (Option.some.inj h).symm⟩
def inA (k : Int) (n : Nat) : Option Nat := match k with
  | .ofNat i => bif Nat.blt i n then some i else none
  | .negSucc _ => none
theorem inA_natIn {k : Int} {n j : Nat} (h : inA k n = some j) : natIn k n = some j := by
  cases k with
  | negSucc _ => simp [inA] at h
  | ofNat i =>
    unfold inA at h
    simp only at h
    cases hb : Nat.blt i n with
    | false => rw [hb] at h; simp at h
    | true =>
      rw [hb] at h
      obtain rfl := Option.some.inj h
      exact natIn_lt (Nat.le_of_ble_eq_true hb)
section
variable {P : Program} {F : Rd} {M : Mem} {H : List Ent} {e : Env} {p q : Operand} {t tt : TypeId} {rk : RK} {α : Type} {enc : α → List SV} {i j n off : Nat} {bb : Pos} {l l' : List α} {a : α}
theorem Has.arrAt (hH : Has F M H) (hi : H[i]? = some (.obj bb (.row tt rk (l.flatMap enc)))) (ha : l[j]? = some a) (hlen : ∀ a, (enc a).length = 1) : PtrTo (rowOf M) (.ptr bb j) (enc a) := by
  have := (hH.get hi).1.el hlen ha
  rw [Nat.zero_add, Nat.mul_one] at this
  exact this
theorem arr_place {kk : IntKind} {k : Int} (ha : natIn k n = some j) (hz : elems P t = some (.arr n 1)) (M : Mem) : xIndexAddr P t (.ptr bb off) (.int kk k) M = .val (.ptr bb (off + j * 1)) M := by
  unfold xIndexAddr
  simp only [hz, ha]
  rfl
theorem ExG.storeA {s : SV} {v : α} (h : ar e p = some (.ptr bb j)) (h' : ar e q = some s) (hH : Has F M H) (hi : H[i]? = some (.obj bb (.row tt .whole (l.flatMap enc)))) (hu : upd l j v = some l') (hz : szOf P t = some 1) (hs : cellsOf s = enc v) (hlen : ∀ a, (enc a).length = 1) (h1 : ∀ a, ones (enc a) = true) :
    ExG P M e (.store t p q) fun s M' => s = .tuple [] ∧ Has F M' (H.set i (.obj bb (.row tt .whole (l'.flatMap enc)))) := by
  obtain ⟨j', hj, hlt, rfl⟩ := upd_some hu
  have hj' : j' = j := by omega
  subst hj'
  have hfl := flat_set hlen l j' v hlt
  rw [Nat.mul_one] at hfl
  exact ExG.storeC (zz := 1) h h' hs hH hi hz (by rw [hlen]) rfl (Nat.ble_eq_true_of_le (by rw [flatm_len hlen]; omega)) (h1 v) hfl.symm
theorem Has.arrRd (hH : Has F M H) (hi : H[i]? = some (.obj bb (.row tt rk (l.flatMap enc)))) (ha : l[j]? = some a) (hlen : ∀ a, (enc a).length = 1) : PtrTo (rd M) (.ptr bb j) (enc a) := by
  have hj := (List.getElem?_eq_some_iff.1 ha).1
  have := flat_at hlen l j a ha
  rw [Nat.mul_one] at this
  exact ⟨bb, j, _, rfl, (hH.get hi).1.rd, by rw [flatm_len hlen, hlen]; omega, by rw [hlen]; exact this⟩
theorem arr_cutV {k0 : IntKind} {hi : Int} (hl : cutA n l off hi = some l') (hk : slK P t = some (.arr n 1)) (M' : Mem) : xSlice P t (.ptr bb off) none (some (.int k0 hi)) none M' = .val (.slice bb off l'.length n) M' := by
  obtain ⟨q, rfl, hq, hoff, rfl⟩ := cutA_some hl
  have hlq : ((l.drop off).take q).length = q := by rw [List.length_take, List.length_drop]; omega
  have hcut : cutAt bb off 0 q n 1 = .slice bb off ((l.drop off).take q).length n := by
    rw [hlq]
    unfold cutAt
    simp only [Nat.mul_eq, Nat.zero_mul, Nat.add_eq, Nat.add_zero, Nat.sub_eq, Nat.sub_zero]
    congr 1
    cases Nat.beq n 0 <;> rfl
  rw [← hcut]
  unfold xSlice
  have e1 : boundS (none : Option SV) n n = some n := rfl
  have e2 : boundS (some (.int k0 (q : Int))) n n = some q := by
    have e : intNat (q : Int) = some q := rfl
    simp only [boundS, e, Nat.ble_eq_true_of_le hq]
  have e3 : boundS (none : Option SV) 0 q = some 0 := rfl
  have e4 : bnds none (some (.int k0 (q : Int))) none n n = some (0, q, n) := by
    unfold bnds
    simp only [e1, e2, e3, Nat.ble_eq_true_of_le (Nat.zero_le q)]
  simp only [hk, e4]
theorem arr_slcH {hi : Int} (hH : Has F M H) (ho : H[i]? = some (.obj bb (.row tt rk (l.flatMap enc)))) (hl : cutA n l off hi = some l') (hlen : ∀ a, (enc a).length = 1) : Slc (rd M) 1 (FlatR enc) (.slice bb off l'.length n) l' := by
  obtain ⟨q, rfl, hq, hoff, rfl⟩ := cutA_some hl
  have hlq : ((l.drop off).take q).length = q := by rw [List.length_take, List.length_drop]; omega
  refine .inr ⟨bb, off, _, .inl ⟨n, by rw [hlq]; exact hq, rfl⟩, (hH.get ho).1.rd, by rw [hlq, flatm_len hlen]; omega, fun k a ha => ?_⟩
  have hk' : k < q := by
    have := (List.getElem?_eq_some_iff.1 ha).1
    omega
  rw [List.getElem?_take_of_lt hk', List.getElem?_drop] at ha
  have := flat_at hlen l (off + k) a ha
  rw [Nat.mul_one] at this
  rw [Nat.mul_one]
  exact this
theorem CallsM.sliceOf {f : FuncId} {G : Func} {c : Code} {xs : List SV} {cp : Nat} (hF : P.funcs[f]? = some G) (hb : G.body = some c) (hn : Nat.ble xs.length G.ntmps = true) (hbb : bb.num < M.next.num)
    (h : Run P (fx0 f) G.ntmps (fun s _ => s = .slice bb off n cp) (argE 0 [] xs) [.code c] (frozen M)) : CallsM P f xs M fun s M' => s = .slice bb off n cp ∧ M' = M := by
  intro hw
  obtain ⟨s, Me, hq, ha, hrun⟩ := h (frozen_wf hw)
  subst hq
  refine ⟨_, M, ?_, .refl hw, rfl, rfl⟩
  intro hmix B m w vs hr has cf cs
  have hfr := enter_rel (enter_ok hF hb hn) has
  obtain ⟨fr, w', m', x, g1, g2, g3, g4, _⟩ := hrun hmix w.heap.size m w _ [] (cf :: cs) (frozen_rel hr) hfr .nil
  refine ⟨m, w', x, ⟨hr.kept g2.below, fun _ _ => rfl, fun _ _ _ => rfl, Nat.le_refl _, g2.below.mono hr.base, fun k hk _ => g2.below.block k hk, fun _ _ h => h, fun _ _ => rfl, rfl, fun _ _ h => h, fun b p hbn hp _ => absurd hp (by rw [(hr.fresh b hbn).1]; simp)⟩, ?_, Steps.trans g1 (.one (step_leave_returned g4))⟩
  rw [← g3]
  have e : m' bb = m bb := g2.same bb hbb
  simp only [conc, e]
theorem intCells_get (k : IntKind) : ∀ (zs : List Int) (j : Nat) (z : Int), zs[j]? = some z → (intCells k zs)[j]? = some (.int k z)
  | [], j, z, h => by simp at h
  | y :: zs, 0, z, h => by
    simp only [List.getElem?_cons_zero, Option.some.injEq] at h
    subst h
    rfl
  | y :: zs, j + 1, z, h => by
    show (SV.int k y :: intCells k zs)[j + 1]? = _
    simp only [List.getElem?_cons_succ] at h ⊢
    exact intCells_get k zs j z h
theorem ex_elG {g : Nat} {c : List SV} {kk : IntKind} {k : Int} (hH : Has F M H) (hi : H[i]? = some (fixE (g, c))) (h' : ar e q = some (.int kk k)) (ha : natIn k n = some j) (hz : elems P t = some (.arr n 1)) : execO P M (treeOf e) (.indexAddr t (.global g) q) = .val (.ptr (Pos.ofNat g) (0 + j * 1)) M := by
  have hf : M.t.get (Pos.ofNat g) = some (.fix c) := (hH.get hi).1
  have hg : arg M (treeOf e) (.global g) = some (.ptr (Pos.ofNat g) 0) := by
    have : fixOf M (Pos.ofNat g) = true := by unfold fixOf; rw [hf]
    show (Bool.rec none (some (SV.ptr (Pos.ofNat g) 0)) (fixOf M (Pos.ofNat g)) : Option SV) = _
    rw [this]
  show eIndexA P M (treeOf e) t (.global g) q = _
  unfold eIndexA
  rw [hg, ar_arg h']
  show xIndexAddr P t (.ptr (Pos.ofNat g) 0) (.int kk k) M = _
  exact arr_place ha hz M
theorem fix_at {g : Nat} {kk : IntKind} {zs : List Int} {z : Int} (hH : Has F M H) (hi : H[i]? = some (fixE (g, intCells kk zs))) (ha : zs[j]? = some z) : PtrTo (rowOf M) (.ptr (Pos.ofNat g) (0 + j * 1)) [.int kk z] := by
  have hf : M.t.get (Pos.ofNat g) = some (.fix (intCells kk zs)) := (hH.get hi).1
  have hg := intCells_get kk zs j z ha
  have hlt := (List.getElem?_eq_some_iff.1 hg).1
  refine ⟨Pos.ofNat g, 0 + j * 1, intCells kk zs, rfl, by unfold rowOf; rw [hf], by simp; omega, ?_⟩
  rw [Nat.zero_add, Nat.mul_one, List.drop_eq_getElem_cons hlt, (List.getElem?_eq_some_iff.1 hg).2]
  rfl
end
theorem conc_aggL {m : Map} {l : List SV} {vs : List Value} (h : concs m l = some vs) : conc m (.agg l) = some (.agg vs.toArray) := by
  show (concs m l).map _ = _
  rw [h]
  rfl
def add64 (x y c : Int) : Option (Int × Int) := match x, y, c with
  | .ofNat x, .ofNat y, .ofNat c => bif Nat.ble c 1 then some (((x + y + c) % 18446744073709551616 : Nat), ((x + y + c) / 18446744073709551616 : Nat)) else none
  | _, _, _ => none
def sub64 (x y c : Int) : Option (Int × Int) := match x, y, c with
  | .ofNat x, .ofNat y, .ofNat c => bif Nat.ble c 1 then some (((x + 18446744073709551616 - y - c) % 18446744073709551616 : Nat), bif Nat.ble (x + 1) (y + c) then 1 else 0) else none
  | _, _, _ => none
section
variable {P : Program} {M : Mem} {e : Env} {f : FuncId} {xs : Array Operand} {ts : Array TypeId}
end
end Go.Ev
