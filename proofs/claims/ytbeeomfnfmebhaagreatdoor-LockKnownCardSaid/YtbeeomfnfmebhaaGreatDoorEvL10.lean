/- A part of the small machine. -/
import Derived.Test.YtbeeomfnfmebhaaGreatDoorEvL6
set_option linter.unusedVariables false
namespace Go.Ev
open Go.RowKit
variable {P : Program}
theorem MRel.froze {B : Nat} {m : Map} {M : Mem} {w : World} (hr : MRel B m M w) {b : Pos} {tt : TypeId} {rk : RK} {c : List SV} (hb : M.t.get b = some (.row tt rk c)) : MRel B m ⟨M.t.put (some (.ro c)) b, M.next, M.floor⟩ w := by
  have hg : ∀ b' o, (M.t.put (some (SObj.ro c)) b).get b' = some o → b' = b ∧ o = .ro c ∨ b' ≠ b ∧ M.t.get b' = some o := by
    intro b' o h
    by_cases he : b = b'
    · subst he
      rw [Tree.get_put_same] at h
      exact .inl ⟨rfl, (Option.some.inj h).symm⟩
    · rw [Tree.get_put_other _ _ he] at h
      exact .inr ⟨fun e => he e.symm, h⟩
  refine ⟨fun b' o p h hp => ?_, fun b1 b2 o1 o2 p1 p2 h1 h2 how hp1 hp2 he => ?_, fun b' h => ⟨(hr.fresh b' h).1, ?_⟩, hr.bound, fun b' o p h ho hp => ?_, hr.base, fun b' c' h => ?_, hr.flo⟩
  · rcases hg b' o h with ⟨rfl, rfl⟩ | ⟨_, h⟩
    · obtain ⟨e, fz, pre, vs, post, h1, _, h2, h3, h4, _⟩ := hr.objs b' _ p hb hp
      exact ⟨e, fz, pre, vs, post, h1, trivial, h2, h3, h4, fun t ht => by simp at ht⟩
    · exact hr.objs b' o p h hp
  · rcases hg b1 o1 h1 with ⟨e1, f1⟩ | ⟨_, g1⟩ <;> rcases hg b2 o2 h2 with ⟨e2, f2⟩ | ⟨_, g2⟩
    · exact e1.trans e2.symm
    · exact hr.inj b1 b2 _ o2 p1 p2 (e1 ▸ hb) g2 (.inl rfl) hp1 hp2 he
    · exact hr.inj b1 b2 o1 _ p1 p2 g1 (e2 ▸ hb) (.inr rfl) hp1 hp2 he
    · exact hr.inj b1 b2 o1 o2 p1 p2 g1 g2 how hp1 hp2 he
  · show Tree.get b' (M.t.put _ _) = none
    rw [Tree.get_put_other _ _ (fun e => by subst e; have := (hr.fresh b h).2; rw [hb] at this; simp at this)]
    exact (hr.fresh b' h).2
  · rcases hg b' o h with ⟨rfl, rfl⟩ | ⟨_, h⟩
    · simp [SObj.own] at ho
    · exact hr.low b' o p h ho hp
  · rcases hg b' _ h with ⟨_, h⟩ | ⟨_, h⟩
    · cases h
    · exact hr.glob b' c' h
theorem Stepped.froze {B : Nat} {m : Map} {M : Mem} {w : World} (hr : MRel B m M w) {b : Pos} {tt : TypeId} {rk : RK} {c : List SV} (hb : Own M b (.row tt rk c)) (hpl : m b ≠ none) : Stepped B m M w m ⟨M.t.put (some (.ro c)) b, M.next, M.floor⟩ w := by
  refine ⟨hr.froze hb.get, fun _ _ => rfl, fun b' hl hm => ?_, Nat.le_refl _, Below.refl _ _, fun _ _ _ => rfl, fun k hk ho => ?_, fun b' hl => ?_, rfl, fun b' c' h => ?_, fun b' p hb' hp _ => absurd hp (by rw [(hr.fresh b' hb').1]; simp)⟩
  · by_cases he : b = b'
    · subst he
      exact absurd hm hpl
    · show Tree.get b' (M.t.put _ _) = _
      rw [Tree.get_put_other _ _ he]
  · obtain ⟨d, x, q, hx, hxo, hq, he⟩ := ho
    by_cases hd : b = d
    · subst hd
      rw [Tree.get_put_same] at hx
      simp only [Option.some.injEq] at hx
      subst hx
      simp [SObj.own] at hxo
    · rw [Tree.get_put_other _ _ hd] at hx
      exact ⟨d, x, q, hx, hxo, hq, he⟩
  · show Tree.get b' (M.t.put _ _) = _
    rw [Tree.get_put_other _ _ (fun e => by subst e; have := hb.low; omega)]
  · by_cases he : b = b'
    · subst he
      rw [Tree.get_put_same] at h
      simp at h
    · rw [Tree.get_put_other _ _ he] at h
      exact h
section
variable {fx : Fx} {n : Nat} {Q : SV → Mem → Prop} {e : Env} {k : List SItem} {M : Mem} {F : Rd} {H : List Ent} {x y : Ent}
theorem Run.freeze {α : Type} {enc : α → List SV} {i t z : Nat} {sv : SV} {l : List α} {tt : TypeId} (ht : lk t e = some sv) (hH : Has F M H) (hi : H[i]? = some (.vec tt z l.length sv (l.flatMap enc))) (hlen : ∀ a, (enc a).length = z)
    (next : ∀ F' M', RdLe F F' → Has F' M' (H.set i (.vec 0 0 0 .nils [])) → Slc F' z (FlatR enc) sv l → Run P fx n Q e k M') : Run P fx n Q e k M := by
  rcases hH.get hi with ⟨rfl, h0, hc0⟩ | ⟨b, hsv, hc, ho⟩
  · have hl : l = [] := List.length_eq_zero_iff.1 h0
    subst hl
    refine next F M (fun _ _ h => h) ?_ (.inl ⟨.inl rfl, rfl⟩)
    exact hH.upd hi (.refl M) (fun _ _ _ h => h) (.inl ⟨rfl, rfl, rfl⟩) (fun b hb => by simp [Ent.fp, blk] at hb)
  · have hnx := hH.upd (y := .vec 0 0 0 .nils []) (M' := ⟨M.t.put (some (.ro (l.flatMap enc))) b, M.next, M.floor⟩) hi (put_ro ho rfl) (fun c o hcn hco => put_keep c o (by rcases hsv with rfl | rfl <;> exact hcn) hco) (.inl ⟨rfl, rfl, rfl⟩) (fun b hb => by simp [Ent.fp, blk] at hb)
    have hro : ro ⟨M.t.put (some (.ro (l.flatMap enc))) b, M.next, M.floor⟩ b = some (l.flatMap enc) := ro_mk ho.lt (.inl (Tree.get_put_same _ _ _))
    have hslc : Slc (ro ⟨M.t.put (some (.ro (l.flatMap enc))) b, M.next, M.floor⟩) z (FlatR enc) sv l := by
      refine .inr ⟨b, 0, _, ?_, hro, by rw [hc]; omega, fun i a ha => by rw [Nat.zero_add]; exact flat_at hlen l i a ha⟩
      rcases hsv with h | h
      · exact .inl ⟨_, Nat.le_refl _, h⟩
      · exact .inr h
    have hrun := next _ _ hnx.base (hnx.upF fun _ _ h => h) hslc
    intro hw
    have ha : Aft M ⟨M.t.put (some (.ro (l.flatMap enc))) b, M.next, M.floor⟩ := hw.put ho.low ho.lt
    obtain ⟨s, M', hq, ha2, hto⟩ := hrun ha.wf
    refine ⟨s, M', hq, ha.trans ha2, ?_⟩
    intro hmix B m w fr frs cs0 hr hf hcs
    have hpl : m b ≠ none := by
      intro hm
      obtain ⟨c, tm, todo, rfl, hcx, htr, hn, hk⟩ := hf
      obtain ⟨v, _, hv⟩ := htr t sv (by rw [treeOf_get]; exact ht)
      rcases hsv with rfl | rfl <;> simp [conc, hm] at hv
    have hst := Stepped.froze hr ho hpl
    obtain ⟨fr', w', m', x, g1, g2, g3, g4, g5⟩ := hto hmix B m w fr frs cs0 hst.rel hf hcs
    exact ⟨fr', w', m', x, g1, hst.trans g2, g3, g4, g5⟩
end
end Go.Ev
namespace Go.Ev
open Go.RowKit
variable {P : Program}
section
variable {fx : Fx} {n : Nat} {Q : SV → Mem → Prop} {e : Env} {k : List SItem} {M : Mem} {all : Array Oper} {F : Rd} {H : List Ent}
end
end Go.Ev
namespace Go.Ev
open Go.RowKit
variable {P : Program}
theorem ones_cons {s : SV} {l : List SV} (h : one s = true) (h' : ones l = true) : ones (s :: l) = true := by
  show Bool.rec (motive := fun _ => Bool) false (ones l) (one s) = true
  rw [h]; exact h'
section
variable {fx : Fx} {n : Nat} {Q : SV → Mem → Prop} {e : Env} {k : List SItem} {M : Mem} {all : Array Oper} {F : Rd} {H : List Ent} {t : TypeId} {p q : Operand}
theorem ExG.box {s : SV} {c : List SV} (h : ar e p = some s) (hc : cellsOf s = c) (hH : Has F M H) : ExG P M e (.box t p) fun v M' => ∃ b, v = .ptr b 0 ∧ Has F M' (.obj b (.row t .whole c) :: H) := by
  subst hc
  exact ExG.new (v := fun b => .ptr b 0) (ex_box h) hH
end
end Go.Ev
namespace Go.Ev
end Go.Ev
namespace Go.Ev
open Go.RowKit
variable {P : Program}
def FixIn (M : Mem) (l : List (Nat × List SV)) : Prop := ∀ x ∈ l, M.t.get (Pos.ofNat x.1) = some (.fix x.2) ∧ (Pos.ofNat x.1).num < M.next.num
theorem FixIn.frozen {M : Mem} {l : List (Nat × List SV)} (h : FixIn M l) : FixIn (frozen M) l := fun x hx => by
  obtain ⟨h1, h2⟩ := h x hx
  refine ⟨?_, h2⟩
  rw [frozen_get, h1]
  rfl
theorem FixIn.rel {n : Nat} {l : List (Nat × List SV)} (hn : (l.all fun x => Nat.blt x.1 n) = true) (hp : (l.all fun x => plain.plains x.2) = true) {B : Nat} {m : Map} {M : Mem} {w : World} (hr : MRel B m M w) (h : FixIn M l) : ∃ m', MRel w.heap.size m' (memFix n l) w := by
  have hn' : ∀ x ∈ l, x.1 < n := by
    intro x hx
    have := List.all_eq_true.1 hn x hx
    exact Nat.le_of_ble_eq_true this
  have hpl : ∀ x ∈ l, plain.plains x.2 = true := fun x hx => List.all_eq_true.1 hp x hx
  refine ⟨fun b => Option.bind ((fixT l).get b) fun _ => m b, ?_⟩
  have hm : ∀ b p, Option.bind ((fixT l).get b) (fun _ => m b) = some p → ∃ x ∈ l, b = Pos.ofNat x.1 ∧ (fixT l).get b = some (.fix x.2) ∧ m b = some p := by
    intro b p hb
    obtain ⟨o, ho, hmb⟩ := Option.bind_eq_some_iff.1 hb
    obtain ⟨x, hx, h1, h2⟩ := fixT_get l b o ho
    subst h2
    exact ⟨x, hx, h1, ho, hmb⟩
  refine ⟨?_, ?_, ?_, ?_, ?_, Nat.le_refl _, ?_, Nat.zero_le _⟩
  · intro b o p ho hb
    obtain ⟨x, hx, rfl, hg, hmb⟩ := hm b p hb
    have ho' : (fixT l).get (Pos.ofNat x.1) = some o := ho
    rw [hg] at ho'
    simp only [Option.some.injEq] at ho'
    subst ho'
    obtain ⟨e, fz, pre, vs, post, g1, g2, g3, g4, g5, g6⟩ := hr.objs _ _ p (h x hx).1 hmb
    exact ⟨e, fz, pre, vs, post, g1, g2, g3, g4, (plains_conc (hpl x hx) _ _).trans g5, g6⟩
  · intro b b' o o' p p' ho ho' how _ _ _
    obtain ⟨x, _, _, rfl⟩ := fixT_get l b o ho
    obtain ⟨x', _, _, rfl⟩ := fixT_get l b' o' ho'
    rcases how with h | h <;> simp [SObj.own] at h
  · intro b hb
    have hnone : (fixT l).get b = none := by
      cases hg : (fixT l).get b with
      | none => rfl
      | some o =>
        obtain ⟨x, hx, rfl, _⟩ := fixT_get l b o hg
        have h1 : (Pos.ofNat n).num ≤ (Pos.ofNat x.1).num := hb
        rw [Pos.num_ofNat, Pos.num_ofNat] at h1
        have := hn' x hx
        omega
    refine ⟨?_, hnone⟩
    show Option.bind ((fixT l).get b) _ = none
    rw [hnone]
    rfl
  · intro b p hb
    obtain ⟨x, _, _, _, hmb⟩ := hm b p hb
    exact hr.bound b p hmb
  · intro b o p ho hown _
    obtain ⟨x, _, _, rfl⟩ := fixT_get l b o ho
    simp [SObj.own] at hown
  · intro b c hc
    have hc' : (fixT l).get b = some (.fix c) := hc
    obtain ⟨x, hx, rfl, h2⟩ := fixT_get l b _ hc'
    obtain ⟨z, hz, hl⟩ := hr.glob _ _ (h x hx).1
    refine ⟨z, ?_, by cases h2; exact hl⟩
    show Option.bind ((fixT l).get _) _ = _
    rw [hc']
    exact hz
abbrev BRow := Option (Bool × Pl × List SV)
def argB (r : ARow) : BRow := r.map fun x => (false, x.1, x.2)
end Go.Ev
namespace Go.Ev
end Go.Ev
namespace Go.Ev
open Go.RowKit
variable {P : Program}
def Rows {α : Type} (R : List SV → α → Prop) (z : Nat) (c : List SV) (l : List α) : Prop := c.length = l.length * z ∧ ∀ (i : Nat) (a : α), l[i]? = some a → R ((c.drop (i * z)).take z) a
section
variable {α : Type} {R R' : List SV → α → Prop} {z : Nat} {c c2 cs : List SV} {l l2 : List α} {a : α}
theorem Rows.nil : Rows R z [] [] := ⟨by simp, fun i a h => by simp at h⟩
theorem Rows.one (hl : cs.length = z) (h : R cs a) : Rows R z cs [a] := by
  refine ⟨by simp [hl], fun i b hb => ?_⟩
  cases i with
  | zero =>
    simp only [List.getElem?_cons_zero, Option.some.injEq] at hb
    subst hb
    simpa [List.take_of_length_le (Nat.le_of_eq hl)] using h
  | succ i => simp at hb
theorem Rows.mono (h : Rows R z c l) (hR : ∀ cs a, R cs a → R' cs a) : Rows R' z c l := ⟨h.1, fun i a ha => hR _ _ (h.2 i a ha)⟩
theorem Rows.append (h : Rows R z c l) (h2 : Rows R z c2 l2) : Rows R z (c ++ c2) (l ++ l2) := by
  refine ⟨by rw [List.length_append, List.length_append, h.1, h2.1, Nat.add_mul], fun i a ha => ?_⟩
  by_cases hi : i < l.length
  · rw [List.getElem?_append_left hi] at ha
    have := h.2 i a ha
    have hle : (i + 1) * z ≤ l.length * z := Nat.mul_le_mul_right z hi
    rw [Nat.succ_mul] at hle
    rw [List.drop_append_of_le_length (by rw [h.1]; omega), List.take_append_of_le_length (by rw [List.length_drop, h.1]; omega)]
    exact this
  · rw [List.getElem?_append_right (by omega)] at ha
    have := h2.2 _ a ha
    have e : i * z = c.length + (i - l.length) * z := by rw [h.1, ← Nat.add_mul]; congr 1; omega
    rw [e, ← List.drop_drop, List.drop_left]
    exact this
theorem Rows.set {i : Nat} (h : Rows R z c l) (hi : i < l.length) (hl : cs.length = z) (hr : R cs a) : Rows R z (c.take (i * z) ++ (cs ++ c.drop (i * z + z))) (l.set i a) := by
  have hle : (i + 1) * z ≤ l.length * z := Nat.mul_le_mul_right z hi
  rw [Nat.succ_mul] at hle
  have hc := h.1
  refine ⟨by simp only [List.length_append, List.length_take, List.length_drop, List.length_set, hl, hc]; omega, fun j b hb => ?_⟩
  have hjl : j < l.length := by have := (List.getElem?_eq_some_iff.1 hb).1; rwa [List.length_set] at this
  have hj2 : (j + 1) * z ≤ l.length * z := Nat.mul_le_mul_right z hjl
  rw [Nat.succ_mul] at hj2
  by_cases hij : i = j
  · subst hij
    rw [List.getElem?_set_self hi] at hb
    simp only [Option.some.injEq] at hb
    subst hb
    have e1 : (c.take (i * z)).length = i * z := by rw [List.length_take]; omega
    rw [List.drop_append_of_le_length (by omega), List.drop_of_length_le (by omega), List.nil_append, List.take_append_of_le_length (by omega), List.take_of_length_le (by omega)]
    exact hr
  · rw [List.getElem?_set_ne hij] at hb
    have := h.2 j b hb
    rcases Nat.lt_or_gt_of_ne hij with hlt | hlt
    · have h3 : (i + 1) * z ≤ j * z := Nat.mul_le_mul_right z hlt
      rw [Nat.succ_mul] at h3
      have e1 : (c.take (i * z)).length = i * z := by rw [List.length_take]; omega
      rw [List.drop_append, List.drop_of_length_le (by omega), List.nil_append, e1, List.drop_append, List.drop_of_length_le (by omega), List.nil_append, hl, List.drop_drop]
      rw [show i * z + z + (j * z - i * z - z) = j * z by omega]
      exact this
    · have h3 : (j + 1) * z ≤ i * z := Nat.mul_le_mul_right z hlt
      rw [Nat.succ_mul] at h3
      have e1 : (c.take (i * z)).length = i * z := by rw [List.length_take]; omega
      rw [List.drop_append_of_le_length (by omega), List.take_append_of_le_length (by rw [List.length_drop]; omega), List.drop_take, List.take_take, Nat.min_eq_left (by omega)]
      exact this
theorem Rows.at {i : Nat} (h : Rows R z c l) (hi : l[i]? = some a) : ∃ cs, (c.drop (i * z)).take z = cs ∧ cs.length = z ∧ R cs a := by
  refine ⟨_, rfl, ?_, h.2 i a hi⟩
  have hlt := (List.getElem?_eq_some_iff.1 hi).1
  have hle : (i + 1) * z ≤ l.length * z := Nat.mul_le_mul_right z hlt
  rw [Nat.succ_mul] at hle
  rw [List.length_take, List.length_drop, h.1]
  omega
theorem Rows.len (h : Rows R z c l) : c.length = l.length * z := h.1
theorem Rows.cons (hl : cs.length = z) (h : R cs a) (h2 : Rows R z c2 l2) : Rows R z (cs ++ c2) (a :: l2) := (Rows.one hl h).append h2
theorem Rows.tail (h : Rows R z c (a :: l)) : R (c.take z) a ∧ Rows R z (c.drop z) l := by
  refine ⟨by simpa using h.2 0 a rfl, ?_, fun i b hb => ?_⟩
  · rw [List.length_drop, h.1, List.length_cons, Nat.succ_mul]; omega
  · have := h.2 (i + 1) b (by simpa using hb)
    rw [Nat.succ_mul] at this
    rw [List.drop_drop, show z + i * z = i * z + z by omega]
    exact this
theorem ones_app : ∀ {p q : List SV}, ones p = true → ones q = true → ones (p ++ q) = true
  | [], _, _, h => h
  | s :: p, q, h, h' => by
    have h0 : Bool.rec (motive := fun _ => Bool) false (ones p) (one s) = true := h
    cases hs : one s with
    | false => rw [hs] at h0; simp at h0
    | true => rw [hs] at h0; exact ones_cons hs (ones_app h0 h')
theorem Rows.ones (h1 : ∀ cs a, R cs a → Go.Ev.ones cs = true) : ∀ {l : List α} {c : List SV}, Rows R z c l → Go.Ev.ones c = true
  | [], c, h => by
    have : c = [] := List.eq_nil_of_length_eq_zero (by rw [h.1]; simp)
    rw [this]; rfl
  | a :: l, c, h => by
    obtain ⟨g1, g2⟩ := h.tail
    rw [← List.take_append_drop z c]
    exact ones_app (h1 _ _ g1) (Rows.ones h1 g2)
end
section
variable {α : Type} {F : Rd} {H : List Ent} {M : Mem} {e : Env} {t u : TypeId} {p q : Operand} {f : Rd} {s sv : SV} {l l' : List α} {z i : Nat} {R : List SV → α → Prop} {tt : TypeId} {c : List SV} {kk : IntKind} {a : Int} {el : α}
theorem Has.atR {j : Nat} {b : Pos} {n : Nat} {cs : List SV} (hH : Has F M H) (hi : H[i]? = some (.vec tt z n sv c)) (hb : blk sv = [b]) (hcs : (c.drop (j * z)).take z = cs) (hl : cs.length = z) : PtrTo (rowOf M) (.ptr b (0 + j * z)) cs := by
  rcases hH.get hi with ⟨rfl, _⟩ | ⟨d, hsv, _, ho⟩
  · simp [blk] at hb
  · have hbb : d = b := by rcases hsv with rfl | rfl <;> (simp only [blk, List.cons.injEq, and_true] at hb; exact hb)
    subst hbb
    subst hcs
    refine ⟨d, 0 + j * z, c, rfl, ho.row, ?_, ?_⟩
    · rw [hl]
      rw [List.length_take, List.length_drop] at hl
      rcases Nat.eq_zero_or_pos z with rfl | hz
      · simp
      · omega
    · rw [hl, Nat.zero_add]
end
section
variable {fx : Fx} {n : Nat} {Q : SV → Mem → Prop} {e : Env} {k : List SItem} {M : Mem} {F : Rd} {H : List Ent}
end
section
variable {K V : Type} {ke : K → SV} {ve : V → SV} {eq : K → K → Bool}
def mapES (ke : K → SV) (ve : V → SV) : Nat → List (K × V) → List (SV × SV × Nat)
  | _, [] => []
  | i, x :: l => (ke x.1, ve x.2, i) :: mapES ke ve (i + 1) l
def mfind (eq : K → K → Bool) (k : K) : List (K × V) → Nat → Option (Nat × V)
  | [], _ => none
  | x :: l, i => bif eq k x.1 then some (i, x.2) else mfind eq k l (i + 1)
def mput (eq : K → K → Bool) (l : List (K × V)) (k : K) (v : V) : List (K × V) := match mfind eq k l 0 with
  | some x => l.set x.1 (k, v)
  | none => l ++ [(k, v)]
theorem findS_map {kt : TypeId} {k : K} (hq : ∀ a b, keyEq P kt (ke a) (ke b) = some (eq a b)) (hE : ∀ a b, eq a b = true → a = b) : ∀ (l : List (K × V)) (i j : Nat), findS P kt (ke k) (mapES ke ve j l) i = some ((mfind eq k l i).map fun x => (x.1, ke k, ve x.2))
  | [], i, j => rfl
  | x :: l, i, j => by
    simp only [mapES, findS, hq, mfind]
    cases hk : eq k x.1 with
    | true => rw [← hE _ _ hk]; rfl
    | false => exact findS_map hq hE l (i + 1) (j + 1)
theorem mapES_app (l : List (K × V)) (k : K) (v : V) : ∀ j, mapES ke ve j l ++ [(ke k, ve v, j + l.length)] = mapES ke ve j (l ++ [(k, v)]) := by
  induction l with
  | nil => intro j; rfl
  | cons x l ih =>
    intro j
    simp only [mapES, List.cons_append, List.length_cons]
    rw [← ih (j + 1), show j + (l.length + 1) = j + 1 + l.length by omega]
theorem mfind_lt (k : K) : ∀ (l : List (K × V)) (i : Nat) {x : Nat × V}, mfind eq k l i = some x → ∃ n a, x.1 = i + n ∧ n < l.length ∧ l[n]? = some (a, x.2) ∧ eq k a = true
  | [], _, _, h => by simp [mfind] at h
  | y :: l, i, x, h => by
    unfold mfind at h
    cases hk : eq k y.1 with
    | true =>
      rw [hk] at h
      simp only [cond_true, Option.some.injEq] at h
      subst h
      exact ⟨0, y.1, rfl, by simp, rfl, hk⟩
    | false =>
      rw [hk] at h
      obtain ⟨n, a, h1, h2, h3, h4⟩ := mfind_lt k l (i + 1) (show mfind eq k l (i + 1) = some x from h)
      exact ⟨n + 1, a, by omega, by simp; omega, by simpa using h3, h4⟩
theorem setE_map (k : K) (v : V) : ∀ (l : List (K × V)) (n j : Nat) (a : K) (u : V), l[n]? = some (a, u) → a = k → setE (ve v) n (mapES ke ve j l) = mapES ke ve j (l.set n (k, v))
  | [], n, j, a, u, h, _ => by simp at h
  | x :: l, 0, j, a, u, h, hk => by
    simp only [List.getElem?_cons_zero, Option.some.injEq] at h
    subst h hk
    rfl
  | x :: l, n + 1, j, a, u, h, hk => by
    simp only [mapES, setE, List.set_cons_succ]
    rw [setE_map k v l n (j + 1) a u (by simpa using h) hk]
variable {F : Rd} {H : List Ent} {M : Mem} {e : Env} {t : TypeId} {p q r : Operand} {i : Nat} {b : Pos} {l : List (K × V)} {kt et : TypeId} {k : K} {v : V}
theorem ExG.makeMap (ke : K → SV) (ve : V → SV) (hH : Has F M H) : ExG P M e (.makeMap t none) fun s M' => ∃ b, s = .map b ∧ Has F M' (.obj b (.map (mapES ke ve 0 ([] : List (K × V))) 0) :: H) := by
  intro hw
  refine ⟨.map M.next, ⟨M.t.put (some (.map [] 0)) M.next, M.next.succ, M.floor⟩, ?_, hw.anew _, M.next, rfl, hH.newObj hw rfl⟩
  show xMakeMap M = _
  unfold xMakeMap
  rw [nextOf_eq]
theorem map_own (hH : Has F M H) {es : List (SV × SV × Nat)} {c : Nat} (hi : H[i]? = some (.obj b (.map es c))) : mapOf M b = some (es, c) ∧ mapOwn M b = some (es, c) := by
  obtain ⟨ho, _⟩ := hH.get hi
  have h1 : mapOf M b = some (es, c) := by unfold mapOf; rw [ho.get]
  refine ⟨h1, ?_⟩
  unfold mapOwn
  have ha : above M b = true := Nat.ble_eq_true_of_le ho.low
  rw [ha]
  exact h1
theorem ExG.mapUpdate (h : ar e p = some (.map b)) (h' : ar e q = some (ke k)) (h'' : ar e r = some (ve v)) (hH : Has F M H) (hi : H[i]? = some (.obj b (.map (mapES ke ve 0 l) l.length))) (ht : mapT P t = some (kt, et)) (hok : keyOK P 8 kt (ke k) = true) (hq : ∀ a b, keyEq P kt (ke a) (ke b) = some (eq a b)) (hE : ∀ a b, eq a b = true → a = b) (hp : keyPlain (ke k) = true) (hs : selfB (ke k) = true) :
    ExG P M e (.mapUpdate t p q r) fun s M' => s = .tuple [] ∧ Has F M' (H.set i (.obj b (.map (mapES ke ve 0 (mput eq l k v)) (mput eq l k v).length))) := by
  intro hw
  have ho := (hH.get hi).1
  have hx : execO P M (treeOf e) (.mapUpdate t p q r) = xMapUpdate P t (.map b) (ke k) (ve v) M := by
    show with1 (arg M (treeOf e) p) (fun x => with1 (arg M (treeOf e) q) fun k => with1 (arg M (treeOf e) r) fun v => xMapUpdate P t x k v M) = _
    rw [ar_arg h, ar_arg h', ar_arg h'']
    rfl
  have hout : xMapUpdate P t (.map b) (ke k) (ve v) M = .val (.tuple []) (putObj M b (.map (mapES ke ve 0 (mput eq l k v)) (mput eq l k v).length)) := by
    unfold xMapUpdate
    simp only [ht, hok, (map_own hH hi).2, findS_map hq hE]
    unfold mput
    cases hf : mfind eq k l 0 with
    | none =>
      have := mapES_app (ke := ke) (ve := ve) l k v 0
      rw [Nat.zero_add] at this
      simp only [Option.map_none, this, List.length_append, List.length_cons, List.length_nil]
    | some x =>
      obtain ⟨n, a, h1, h2, h3, h4⟩ := mfind_lt k l 0 hf
      have h5 := setE_map (ke := ke) (ve := ve) k v l n 0 a x.2 h3 (hE _ _ h4).symm
      rw [Nat.zero_add] at h1
      simp only [Option.map_some, beqSV_self hs, hp, h1, h5, List.length_set]
  refine ⟨_, _, hx.trans hout, ?_, rfl, ?_⟩
  · rw [putObj_eq]; exact hw.put ho.low ho.lt
  · rw [putObj_eq]; exact hH.putObj hi rfl
end
end Go.Ev
namespace Go.Ev
open Go.RowKit
section
variable {P : Program} {F : Rd} {M : Mem} {H : List Ent} {e : Env} {p q : Operand} {t tt : TypeId} {rk : RK} {α : Type} {enc : α → List SV} {i j n off : Nat} {bb : Pos} {l l' : List α} {a : α}
end
def add64 (x y c : Int) : Option (Int × Int) := match x, y, c with
  | .ofNat x, .ofNat y, .ofNat c => bif Nat.ble c 1 then some (((x + y + c) % 18446744073709551616 : Nat), ((x + y + c) / 18446744073709551616 : Nat)) else none
  | _, _, _ => none
def sub64 (x y c : Int) : Option (Int × Int) := match x, y, c with
  | .ofNat x, .ofNat y, .ofNat c => bif Nat.ble c 1 then some (((x + 18446744073709551616 - y - c) % 18446744073709551616 : Nat), bif Nat.ble (x + 1) (y + c) then 1 else 0) else none
  | _, _, _ => none
section
variable {P : Program} {M : Mem} {e : Env} {f : FuncId} {xs : Array Operand} {ts : Array TypeId}
end
end Go.Ev
