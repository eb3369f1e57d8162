/- A part of the small machine. -/
import Derived.Test.YtoobfmfgbcohcabGreatDoorEvL6
set_option linter.unusedVariables false
/- What is owned is only read from now on; a field of an element is stored. -/
namespace Go.Ev
open Go.RowKit
variable {P : Program}

/-- A row that the run owns, as one that is only read. -/
theorem MRel.froze {B : Nat} {m : Map} {M : Mem} {w : World} (hr : MRel B m M w) {b : Pos} {tt : TypeId} {rk : RK} {c : List SV} (hb : M.t.get b = some (.row tt rk c)) : MRel B m ⟨M.t.put (some (.ro c)) b, M.next, M.floor⟩ w := by
 have hg : ∀ b' o, (M.t.put (some (SObj.ro c)) b).get b' = some o → b' = b ∧ o = .ro c ∨ b' ≠ b ∧ M.t.get b' = some o := by
  intro b' o h
  by_cases he : b = b'
  ·subst he
   rw [Tree.get_put_same] at h
   exact .inl ⟨rfl, (Option.some.inj h).symm⟩
  ·rw [Tree.get_put_other _ _ he] at h
   exact .inr ⟨fun e => he e.symm, h⟩
 refine ⟨fun b' o p h hp => ?_, fun b1 b2 o1 o2 p1 p2 h1 h2 how hp1 hp2 he => ?_, fun b' h => ⟨(hr.fresh b' h).1, ?_⟩, hr.bound, fun b' o p h ho hp => ?_, hr.base, fun b' c' h => ?_, hr.flo⟩
 ·rcases hg b' o h with ⟨rfl, rfl⟩ | ⟨_, h⟩
  ·obtain ⟨e, fz, pre, vs, post, h1, _, h2, h3, h4, _⟩ := hr.objs b' _ p hb hp
   exact ⟨e, fz, pre, vs, post, h1, trivial, h2, h3, h4, fun t ht => by simp at ht⟩
  ·exact hr.objs b' o p h hp
 ·rcases hg b1 o1 h1 with ⟨e1, f1⟩ | ⟨_, g1⟩ <;> rcases hg b2 o2 h2 with ⟨e2, f2⟩ | ⟨_, g2⟩
  ·exact e1.trans e2.symm
  ·exact hr.inj b1 b2 _ o2 p1 p2 (e1 ▸ hb) g2 (.inl rfl) hp1 hp2 he
  ·exact hr.inj b1 b2 o1 _ p1 p2 g1 (e2 ▸ hb) (.inr rfl) hp1 hp2 he
  ·exact hr.inj b1 b2 o1 o2 p1 p2 g1 g2 how hp1 hp2 he
 ·show Tree.get b' (M.t.put _ _) = none
  rw [Tree.get_put_other _ _ (fun e => by subst e; have := (hr.fresh b h).2; rw [hb] at this; simp at this)]
  exact (hr.fresh b' h).2
 ·rcases hg b' o h with ⟨rfl, rfl⟩ | ⟨_, h⟩
  ·simp [SObj.own] at ho
  ·exact hr.low b' o p h ho hp
 ·rcases hg b' _ h with ⟨_, h⟩ | ⟨_, h⟩
  ·cases h
  ·exact hr.glob b' c' h
theorem zi0.froze {B : Nat} {m : Map} {M : Mem} {w : World} (hr : MRel B m M w) {b : Pos} {tt : TypeId} {rk : RK} {c : List SV} (hb : Own M b (.row tt rk c)) (hpl : m b ≠ none) : zi0 B m M w m ⟨M.t.put (some (.ro c)) b, M.next, M.floor⟩ w := by
 refine ⟨hr.froze hb.get, fun _ _ => rfl, fun b' hl hm => ?_, Nat.le_refl _, Below.refl _ _, fun _ _ _ => rfl, fun k hk ho => ?_, fun b' hl => ?_, rfl, fun b' c' h => ?_, fun b' p hb' hp _ => absurd hp (by rw [(hr.fresh b' hb').1]; simp)⟩
 ·by_cases he : b = b'
  ·subst he
   exact absurd hm hpl
  ·show Tree.get b' (M.t.put _ _) = _
   rw [Tree.get_put_other _ _ he]
 ·obtain ⟨d, x, q, hx, hxo, hq, he⟩ := ho
  by_cases hd : b = d
  ·subst hd
   rw [Tree.get_put_same] at hx
   simp only [Option.some.injEq] at hx
   subst hx
   simp [SObj.own] at hxo
  ·rw [Tree.get_put_other _ _ hd] at hx
   exact ⟨d, x, q, hx, hxo, hq, he⟩
 ·show Tree.get b' (M.t.put _ _) = _
  rw [Tree.get_put_other _ _ (fun e => by subst e; have := hb.low; omega)]
 ·by_cases he : b = b'
  ·subst he
   rw [Tree.get_put_same] at h
   simp at h
  ·rw [Tree.get_put_other _ _ he] at h
   exact h

section
variable {fx : Fx} {n : Nat} {Q : SV → Mem → Prop} {e : Env} {k : List SItem} {M : Mem} {F : Rd} {H : List Ent} {x y : Ent}
end
end Go.Ev
namespace Go.Ev
open Go.RowKit
variable {P : Program}
section
variable {fx : Fx} {n : Nat} {Q : SV → Mem → Prop} {e : Env} {k : List SItem} {M : Mem} {all : Array Oper} {F : Rd} {H : List Ent}
theorem Has.le (hH : Has F M H) : RdLe F (rd M) := fun b c hb => ro_rd (hH.base b c hb)
theorem rdLe_roF (hH : Has F M H) : RdLe F (zj7 M) := fun b c hb => zze (hH.base b c hb)
/-- A call that gives a value without places. -/
theorem Run.callP {r : List Oper} {d : Option Tmp} {op : Op} {ty : TypeId} {pos : String} {af : Array Edge} {gd : Option (Nat × Bool)} {g : FuncId} {xs : List SV} {s0 : SV}
  (hw : zil all (treeOf e) ⟨d, op, ty, pos, af, gd⟩ = some true) (hx : execO P M (treeOf e) op = .enter g xs M) (hd : okD d n = true) (hc : CallsM P g xs M fun s M' => s = s0 ∧ M' = M)
  (next : Run P fx n Q (putE d s0 e) (.ops all r :: k) M) : Run P fx n Q e (.ops all (⟨d, op, ty, pos, af, gd⟩ :: r) :: k) M :=
 Run.callX hw hx hd hc fun s M' h => by obtain ⟨rfl, rfl⟩ := h; exact next
theorem DrawG.callP {i : Nat} {op : Op} {ty : TypeId} {pos : String} {af : Array Edge} {g : Option (Nat × Bool)} {d : Option Tmp} {L : List Nat} {r : List PE} {f : FuncId} {xs : List SV} {s0 : SV} (ho : all[i]? = some ⟨d, op, ty, pos, af, g⟩) (hw : zil all (treeOf e) ⟨d, op, ty, pos, af, g⟩ = some true) (hx : execO P M (treeOf e) op = .enter f xs M) (hd : okD d n = true) (hc : CallsM P f xs M fun s M' => s = s0 ∧ M' = M)
  (hs : zij P all M (treeOf (putE d s0 e)) L = true) (h : DrawG P fx n Q all k r (putE d s0 e) M) : DrawG P fx n Q all k (.an i L :: r) e M :=
 DrawG.call ho hw hx hd hc fun v M' hv => by obtain ⟨rfl, rfl⟩ := hv; exact ⟨hs, h⟩
theorem none_le (F : Rd) : RdLe (fun _ => none) F := fun _ _ h => by cases h
end
end Go.Ev
namespace Go.Ev
open Go.RowKit
variable {P : Program}
/-- A value of one cell. -/
theorem cells_one {s : SV} (h : one s = true) : cellsOf s = [s] := by cases s <;> first | rfl | simp [one] at h
theorem ones_nil : ones [] = true := rfl
theorem ones_cons {s : SV} {l : List SV} (h : one s = true) (h' : ones l = true) : ones (s :: l) = true := by
 show Bool.rec (motive := fun _ => Bool) false (ones l) (one s) = true
 rw [h]; exact h'
theorem slc_one {α : Type} {f : Rd} {z : Nat} {R : List SV → α → Prop} {s : SV} {l : List α} (h : Slc f z R s l) : one s = true := by
 rcases h with ⟨rfl | ⟨_, _, _, rfl⟩ | ⟨_, rfl⟩, _⟩ | ⟨b, off, c, ⟨cap, _, rfl⟩ | rfl, _⟩ <;> rfl
section
variable {fx : Fx} {n : Nat} {Q : SV → Mem → Prop} {e : Env} {k : List SItem} {M : Mem} {all : Array Oper} {F : Rd} {H : List Ent} {t : TypeId} {p q : Operand}
theorem vec_one (hH : Has F M H) {i tt z n : Nat} {sv : SV} {c : List SV} (hi : H[i]? = some (.vec tt z n sv c)) : one sv = true := by
 rcases hH.get hi with ⟨rfl, _⟩ | ⟨b, rfl | rfl, _⟩ <;> rfl
theorem ExG.box {s : SV} {c : List SV} (h : ar e p = some s) (hc : cellsOf s = c) (hH : Has F M H) : ExG P M e (.box t p) fun v M' => ∃ b, v = .ptr b 0 ∧ Has F M' (.obj b (.row t .whole c) :: H) := by
 subst hc
 exact ExG.new (v := fun b => .ptr b 0) (y0y h) hH
theorem ExG.storeC {i : Nat} {bb : Pos} {off zz : Nat} {s : SV} {tt : TypeId} {rk : RK} {c c' cs : List SV} (h : ar e p = some (.ptr bb off)) (h' : ar e q = some s) (hcs : cellsOf s = cs) (hH : Has F M H) (hi : H[i]? = some (.obj bb (.row tt rk c))) (hz : szOf P t = some zz) (hl : cs.length = zz) (hk : zpz rk off = true) (hle : Nat.ble (off + zz) c.length = true) (h1 : ones cs = true) (hc : c.take off ++ (cs ++ c.drop (off + zz)) = c') :
  ExG P M e (.store t p q) fun s M' => s = .tuple [] ∧ Has F M' (H.set i (.obj bb (.row tt rk c'))) := by
 subst hcs
 exact ExG.store h h' hH hi hz hl hk hle h1 hc
end
end Go.Ev
namespace Go.Ev
/-- Some of what is known by name, in another order, and all of the rest. -/
theorem Has.pickT {F : Rd} {M : Mem} {L T : List Ent} (h : Has F M (L ++ T)) (l : List Nat) (hl : zuk l = true) {L' : List Ent} (he : zru l L = L') : Has F M (L' ++ T) := by
 have hL : Has F M L := ⟨h.base, fun x hx => h.ok x (List.mem_append_left _ hx), by
  have := h.nd
  rw [List.flatMap_append, List.nodup_append] at this
  exact this.1⟩
 have hp := hL.pick l hl he
 refine ⟨h.base, fun x hx => ?_, ?_⟩
 ·rcases List.mem_append.1 hx with hx | hx
  ·exact hp.ok x hx
  ·exact h.ok x (List.mem_append_right _ hx)
 ·have hn := h.nd
  rw [List.flatMap_append, List.nodup_append] at hn ⊢
  refine ⟨hp.nd, hn.2.1, ?_⟩
  rintro b hb c hc rfl
  obtain ⟨z, hz, hbz⟩ := List.mem_flatMap.1 hb
  rw [← he] at hz
  obtain ⟨j, _, hj⟩ := zlv hz
  exact hn.2.2 b (List.mem_flatMap.2 ⟨z, List.mem_of_getElem? hj, hbz⟩) b hc rfl
end Go.Ev

/- Calls that read listed tables; where a run with arguments and tables begins. -/
namespace Go.Ev
open Go.RowKit
variable {P : Program}

/-- The tables lie in memory. -/
def FixIn (M : Mem) (l : List (Nat × List SV)) : Prop := ∀ x ∈ l, M.t.get (Pos.ofNat x.1) = some (.fix x.2) ∧ (Pos.ofNat x.1).num < M.next.num
noncomputable def fixE (x : Nat × List SV) : Ent := .fixd (Pos.ofNat x.1) x.2
theorem FixIn.frozen {M : Mem} {l : List (Nat × List SV)} (h : FixIn M l) : FixIn (frozen M) l := fun x hx => by
 obtain ⟨h1, h2⟩ := h x hx
 refine ⟨?_, h2⟩
 rw [zjf, h1]
 rfl
theorem Has.ofFix {M : Mem} {l : List (Nat × List SV)} (h : FixIn M l) : Has (ro M) M (l.map fixE) := by
 refine ⟨fun _ _ h => h, fun x hx => ?_, ?_⟩
 ·obtain ⟨y, hy, rfl⟩ := List.mem_map.1 hx
  exact h y hy
 ·have : (l.map fixE).flatMap Ent.fp = [] := by
   induction l with
   | nil => rfl
   | cons a l ih => rw [List.map_cons, List.flatMap_cons, ih fun x hx => h x (List.mem_cons_of_mem _ hx)]; rfl
  rw [this]
  exact List.nodup_nil
theorem Has.fixIn {F : Rd} {M : Mem} {H : List Ent} {l : List (Nat × List SV)} (hH : Has F M H) (h : ∀ x ∈ l, fixE x ∈ H) : FixIn M l := fun x hx => hH.ok _ (h x hx)
theorem FixIn.rel {n : Nat} {l : List (Nat × List SV)} (hn : (l.all fun x => Nat.blt x.1 n) = true) (hp : (l.all fun x => plain.plains x.2) = true) {B : Nat} {m : Map} {M : Mem} {w : World} (hr : MRel B m M w) (h : FixIn M l) : ∃ m', MRel w.heap.size m' (memFix n l) w := by
 have hn' : ∀ x ∈ l, x.1 < n := by
  intro x hx
  have := List.all_eq_true.1 hn x hx
  exact Nat.le_of_ble_eq_true this
 have hpl : ∀ x ∈ l, plain.plains x.2 = true := fun x hx => List.all_eq_true.1 hp x hx
 refine ⟨fun b => Option.bind ((zth l).get b) fun _ => m b, ?_⟩
 have hm : ∀ b p, Option.bind ((zth l).get b) (fun _ => m b) = some p → ∃ x ∈ l, b = Pos.ofNat x.1 ∧ (zth l).get b = some (.fix x.2) ∧ m b = some p := by
  intro b p hb
  obtain ⟨o, ho, hmb⟩ := Option.bind_eq_some_iff.1 hb
  obtain ⟨x, hx, h1, h2⟩ := zlf l b o ho
  subst h2
  exact ⟨x, hx, h1, ho, hmb⟩
 refine ⟨?_, ?_, ?_, ?_, ?_, Nat.le_refl _, ?_, Nat.zero_le _⟩
 ·intro b o p ho hb
  obtain ⟨x, hx, rfl, hg, hmb⟩ := hm b p hb
  have ho' : (zth l).get (Pos.ofNat x.1) = some o := ho
  rw [hg] at ho'
  simp only [Option.some.injEq] at ho'
  subst ho'
  obtain ⟨e, fz, pre, vs, post, g1, g2, g3, g4, g5, g6⟩ := hr.objs _ _ p (h x hx).1 hmb
  exact ⟨e, fz, pre, vs, post, g1, g2, g3, g4, (zl5 (hpl x hx) _ _).trans g5, g6⟩
 ·intro b b' o o' p p' ho ho' how _ _ _
  obtain ⟨x, _, _, rfl⟩ := zlf l b o ho
  obtain ⟨x', _, _, rfl⟩ := zlf l b' o' ho'
  rcases how with h | h <;> simp [SObj.own] at h
 ·intro b hb
  have hnone : (zth l).get b = none := by
   cases hg : (zth l).get b with
   | none => rfl
   | some o =>
    obtain ⟨x, hx, rfl, _⟩ := zlf l b o hg
    have h1 : (Pos.ofNat n).num ≤ (Pos.ofNat x.1).num := hb
    rw [Pos.num_ofNat, Pos.num_ofNat] at h1
    have := hn' x hx
    omega
  refine ⟨?_, hnone⟩
  show Option.bind ((zth l).get b) _ = none
  rw [hnone]
  rfl
 ·intro b p hb
  obtain ⟨x, _, _, _, hmb⟩ := hm b p hb
  exact hr.bound b p hmb
 ·intro b o p ho hown _
  obtain ⟨x, _, _, rfl⟩ := zlf l b o ho
  simp [SObj.own] at hown
 ·intro b c hc
  have hc' : (zth l).get b = some (.fix c) := hc
  obtain ⟨x, hx, rfl, h2⟩ := zlf l b _ hc'
  obtain ⟨z, hz, hl⟩ := hr.glob _ _ (h x hx).1
  refine ⟨z, ?_, by cases h2; exact hl⟩
  show Option.bind ((zth l).get _) _ = _
  rw [hc']
  exact hz
theorem CallsM.closedFix {f : FuncId} {n : Nat} {l : List (Nat × List SV)} (hn : (l.all fun x => Nat.blt x.1 n) = true) (hp : (l.all fun x => plain.plains x.2) = true) (hc : ∀ w m, MRel w.heap.size m (memFix n l) w → Calls P f #[] w fun e w' => e = .returned (.bool true) ∧ Below w.heap.size w w') {M : Mem} (h : FixIn M l) : CallsM P f [] M fun s M' => s = .bool true ∧ M' = M := by
 intro hw
 refine ⟨.bool true, M, ?_, .refl hw, rfl, rfl⟩
 intro _ B m w vs hr has c cs
 have hvs : vs = #[] := by
  have := concs_nil m
  rw [this] at has
  have := Option.some.inj has
  exact (Array.toList_eq_nil_iff.1 this.symm)
 subst hvs
 obtain ⟨m1, hr1⟩ := FixIn.rel hn hp hr h
 obtain ⟨e, w', fr, ⟨rfl, hb⟩, hcome, hfn, hl⟩ := hc w m1 hr1 (c :: cs)
 exact ⟨m, w', .bool true, ⟨hr.kept hb, fun _ _ => rfl, fun _ _ _ => rfl, Nat.le_refl _, hb.mono hr.base, fun k hk _ => hb.block k hk, fun _ _ h => h, fun _ _ => rfl, rfl, fun _ _ h => h, fun b p hbn hp _ => absurd hp (by rw [(hr.fresh b hbn).1]; simp)⟩, rfl, Steps.trans hcome (.one (step_leave_returned hl))⟩

/- WHERE A RUN BEGINS -/
abbrev BRow := Option (Bool × Pl × List SV)
def zzl (x : Bool × Pl × List SV) : SObj := bif x.1 then .fix x.2.2 else .ro x.2.2
def mapB (l : List BRow) : Map := fun b => match l[b.num - 1]? with
 | some (some x) => some x.2.1
 | _ => none
noncomputable def zrl : Nat → List BRow → Tree SObj
 | _, [] => .leaf
 | i, none :: l => zrl (i + 1) l
 | i, some x :: l => Tree.put (some (zzl x)) (Pos.ofNat i) (zrl (i + 1) l)
theorem zmy (b : Pos) : ∀ (l : List BRow) (i : Nat), (zrl i l).get b = if i < b.num then (match l[b.num - (i + 1)]? with
 | some (some x) => some (zzl x)
 | _ => none) else none
 | [], i => by rw [zrl, Tree.get_leaf]; simp
 | none :: l, i => by
  rw [zrl, zmy b l (i + 1)]
  by_cases h : i < b.num
  ·rw [if_pos h]
   by_cases h1 : i + 1 < b.num
   ·rw [if_pos h1, show b.num - (i + 1) = (b.num - (i + 1 + 1)) + 1 by omega, List.getElem?_cons_succ]
   ·rw [if_neg h1, show b.num - (i + 1) = 0 by omega]; rfl
  ·rw [if_neg h, if_neg (by omega)]
 | some x :: l, i => by
  rw [zrl, Tree.get_put, zmy b l (i + 1)]
  by_cases e : Pos.ofNat i = b
  ·have hn : b.num = i + 1 := by rw [← e, Pos.num_ofNat]
   rw [if_pos e, if_pos (by omega), show b.num - (i + 1) = 0 by omega]; rfl
  ·rw [if_neg e]
   by_cases h : i < b.num
   ·have hne : b.num ≠ i + 1 := by
     intro hn
     exact e (Pos.num_inj (by rw [Pos.num_ofNat, hn]))
    rw [if_pos h, if_pos (by omega), show b.num - (i + 1) = (b.num - (i + 1 + 1)) + 1 by omega, List.getElem?_cons_succ]
   ·rw [if_neg h, if_neg (by omega)]
noncomputable def memB (l : List BRow) : Mem := ⟨zrl 0 l, Pos.ofNat l.length, l.length + 1⟩
theorem zm8 {l : List BRow} {b : Pos} {o : SObj} (h : (memB l).t.get b = some o) : ∃ x, l[b.num - 1]? = some (some x) ∧ o = zzl x := by
 have h' : (zrl 0 l).get b = some o := h
 rw [zmy, if_pos (by have := b.num_pos; omega), Nat.zero_add] at h'
 split at h'
 ·rename_i x hx
  exact ⟨x, hx, (Option.some.inj h').symm⟩
 ·simp at h'
theorem zrw {l : List BRow} {b : Pos} {p : Pl} (h : mapB l b = some p) : ∃ x, l[b.num - 1]? = some (some x) ∧ p = x.2.1 := by
 unfold mapB at h
 split at h
 ·rename_i x hx
  exact ⟨x, hx, (Option.some.inj h).symm⟩
 ·simp at h
theorem mapB_at {l : List BRow} {j : Nat} {x : Bool × Pl × List SV} (h : l[j]? = some (some x)) : mapB l (Pos.ofNat j) = some x.2.1 := by
 unfold mapB
 rw [Pos.num_ofNat, Nat.add_sub_cancel, h]
theorem ztp {l : List BRow} {j : Nat} {x : Bool × Pl × List SV} (h : l[j]? = some (some x)) : (memB l).t.get (Pos.ofNat j) = some (zzl x) ∧ (Pos.ofNat j).num < (memB l).next.num := by
 have hj : j < l.length := (List.getElem?_eq_some_iff.1 h).1
 refine ⟨?_, ?_⟩
 ·show (zrl 0 l).get (Pos.ofNat j) = _
  rw [zmy, Pos.num_ofNat, if_pos (by omega), show j + 1 - (0 + 1) = j by omega, h]
 ·show (Pos.ofNat j).num < (Pos.ofNat l.length).num
  rw [Pos.num_ofNat, Pos.num_ofNat]; omega
theorem memB_ro {l : List BRow} {j : Nat} {p : Pl} {c : List SV} (h : l[j]? = some (some (false, p, c))) : ro (memB l) (Pos.ofNat j) = some c := zvx (ztp h).2 (.inl (ztp h).1)
theorem memB_fix {l : List BRow} {j : Nat} {p : Pl} {c : List SV} (h : l[j]? = some (some (true, p, c))) : (memB l).t.get (Pos.ofNat j) = some (.fix c) ∧ (Pos.ofNat j).num < (memB l).next.num := ztp h
/-- A listed table's row. -/
theorem fix_row {W : World} {l : List (Nat × List SV)} (h : FixOK W l) {x : Nat × List SV} (hx : x ∈ l) : x.1 < W.heap.size ∧ ∀ m, RowRel m ⟨x.1, 0, x.2.length⟩ none .lost x.2 W.heap[x.1]? := by
 obtain ⟨e, vs, hh, hc⟩ := h x hx
 have hl := zi5 hc
 exact ⟨(Array.getElem?_eq_some_iff.1 hh).1, fun m => ⟨e, (0, 0), [], vs, [], by simp [hh], trivial, rfl, by simp [hl], zii (fun _ _ hb => by simp at hb) _ _ hc, fun t ht => by simp at ht⟩⟩
def argB (r : ARow) : BRow := r.map fun x => (false, x.1, x.2)
end Go.Ev
namespace Go.Ev
theorem ex_nilP {P : Program} {M : Mem} {e : Env} {x : Operand} {b : Pos} {o : Nat} (h : ar e x = some (.ptr b o)) : execO P M (treeOf e) (.nilCheck x) = .val (.ptr b o) M := by
 show zi6 (arg M (treeOf e) x) (fun x => zvf P x M) = _
 rw [zig h]
 rfl
end Go.Ev

/- Slices whose elements hold places; objects that are only read from now on; maps. -/
namespace Go.Ev
open Go.RowKit
variable {P : Program}

/-- Cells, z for each element, as R says. -/
def Rows {α : Type} (R : List SV → α → Prop) (z : Nat) (c : List SV) (l : List α) : Prop := c.length = l.length * z ∧ ∀ (i : Nat) (a : α), l[i]? = some a → R ((c.drop (i * z)).take z) a
section
variable {α : Type} {R R' : List SV → α → Prop} {z : Nat} {c c2 cs : List SV} {l l2 : List α} {a : α}
theorem Rows.nil : Rows R z [] [] := ⟨by simp, fun i a h => by simp at h⟩
theorem Rows.one (hl : cs.length = z) (h : R cs a) : Rows R z cs [a] := by
 refine ⟨by simp [hl], fun i b hb => ?_⟩
 cases i with
 | zero =>
  simp only [List.getElem?_cons_zero, Option.some.injEq] at hb
  subst hb
  simpa [List.take_of_length_le (Nat.le_of_eq hl)] using h
 | succ i => simp at hb
theorem Rows.mono (h : Rows R z c l) (hR : ∀ cs a, R cs a → R' cs a) : Rows R' z c l := ⟨h.1, fun i a ha => hR _ _ (h.2 i a ha)⟩
theorem Rows.append (h : Rows R z c l) (h2 : Rows R z c2 l2) : Rows R z (c ++ c2) (l ++ l2) := by
 refine ⟨by rw [List.length_append, List.length_append, h.1, h2.1, Nat.add_mul], fun i a ha => ?_⟩
 by_cases hi : i < l.length
 ·rw [List.getElem?_append_left hi] at ha
  have := h.2 i a ha
  have hle : (i + 1) * z ≤ l.length * z := Nat.mul_le_mul_right z hi
  rw [Nat.succ_mul] at hle
  rw [List.drop_append_of_le_length (by rw [h.1]; omega), List.take_append_of_le_length (by rw [List.length_drop, h.1]; omega)]
  exact this
 ·rw [List.getElem?_append_right (by omega)] at ha
  have := h2.2 _ a ha
  have e : i * z = c.length + (i - l.length) * z := by rw [h.1, ← Nat.add_mul]; congr 1; omega
  rw [e, ← List.drop_drop, List.drop_left]
  exact this
theorem Rows.at {i : Nat} (h : Rows R z c l) (hi : l[i]? = some a) : ∃ cs, (c.drop (i * z)).take z = cs ∧ cs.length = z ∧ R cs a := by
 refine ⟨_, rfl, ?_, h.2 i a hi⟩
 have hlt := (List.getElem?_eq_some_iff.1 hi).1
 have hle : (i + 1) * z ≤ l.length * z := Nat.mul_le_mul_right z hlt
 rw [Nat.succ_mul] at hle
 rw [List.length_take, List.length_drop, h.1]
 omega
theorem Rows.cons (hl : cs.length = z) (h : R cs a) (h2 : Rows R z c2 l2) : Rows R z (cs ++ c2) (a :: l2) := (Rows.one hl h).append h2
theorem Rows.tail (h : Rows R z c (a :: l)) : R (c.take z) a ∧ Rows R z (c.drop z) l := by
 refine ⟨by simpa using h.2 0 a rfl, ?_, fun i b hb => ?_⟩
 ·rw [List.length_drop, h.1, List.length_cons, Nat.succ_mul]; omega
 ·have := h.2 (i + 1) b (by simpa using hb)
  rw [Nat.succ_mul] at this
  rw [List.drop_drop, show z + i * z = i * z + z by omega]
  exact this
theorem zv1 : ∀ {p q : List SV}, ones p = true → ones q = true → ones (p ++ q) = true
 | [], _, _, h => h
 | s :: p, q, h, h' => by
  have h0 : Bool.rec (motive := fun _ => Bool) false (ones p) (one s) = true := h
  cases hs : one s with
  | false => rw [hs] at h0; simp at h0
  | true => rw [hs] at h0; exact ones_cons hs (zv1 h0 h')
theorem Rows.ones (h1 : ∀ cs a, R cs a → Go.Ev.ones cs = true) : ∀ {l : List α} {c : List SV}, Rows R z c l → Go.Ev.ones c = true
 | [], c, h => by
  have : c = [] := List.eq_nil_of_length_eq_zero (by rw [h.1]; simp)
  rw [this]; rfl
 | a :: l, c, h => by
  obtain ⟨g1, g2⟩ := h.tail
  rw [← List.take_append_drop z c]
  exact zv1 (h1 _ _ g1) (Rows.ones h1 g2)
theorem zya {f : Rd} {s : SV} {M : Mem} (h : Slc f z R s l) (hf : RdLe f (zj7 M)) : ∃ c, zif M z l.length s = some c ∧ Rows R z c l := by
 rcases h with ⟨rfl | ⟨_, _, _, rfl⟩ | ⟨_, rfl⟩, rfl⟩ | ⟨b, off, c, hs, hc, hle, hel⟩
 ·exact ⟨[], rfl, .nil⟩
 ·exact ⟨[], rfl, .nil⟩
 ·exact ⟨[], rfl, .nil⟩
 ·have hr := hf b c hc
  have hb' : Nat.ble (Nat.add off (l.length * z)) (len c) = true := by
   rw [zio]
   exact Nat.ble_eq_true_of_le hle
  refine ⟨(c.drop off).take (l.length * z), ?_, by rw [List.length_take, List.length_drop]; omega, fun i a ha => ?_⟩
  ·rcases hs with ⟨cap, _, rfl⟩ | rfl
   ·unfold zif
    simp only [hr, zki, zkj, Nat.mul_eq, hb']
   ·unfold zif
    simp only [hr, zki, zkj, Nat.mul_eq, hb']
  ·have := hel i a ha
   have hlt := (List.getElem?_eq_some_iff.1 ha).1
   have d : (i + 1) * z ≤ l.length * z := Nat.mul_le_mul_right z hlt
   rw [Nat.succ_mul] at d
   rw [List.drop_take, List.drop_drop, List.take_take, Nat.min_eq_left (by omega)]
   exact this
end

section
variable {α : Type} {F : Rd} {H : List Ent} {M : Mem} {e : Env} {t u : TypeId} {p q : Operand} {f : Rd} {s sv : SV} {l l' : List α} {z i : Nat} {R : List SV → α → Prop} {tt : TypeId} {c : List SV} {kk : IntKind} {a : Int} {el : α}
/-- A slice of the run's own is data. -/
theorem Has.slcR (hH : Has F M H) (hi : H[i]? = some (.vec tt z l.length sv c)) (hc : Rows R z c l) : Slc (rd M) z R sv l := by
 rcases hH.get hi with ⟨rfl, h0, _⟩ | ⟨b, hsv, hcl, ho⟩
 ·exact .inl ⟨.inl rfl, List.length_eq_zero_iff.1 h0⟩
 ·refine .inr ⟨b, 0, _, ?_, ho.rd, by rw [hcl]; omega, fun i a ha => by rw [Nat.zero_add]; exact hc.2 i a ha⟩
  rcases hsv with h | h
  ·exact .inl ⟨_, Nat.le_refl _, h⟩
  ·exact .inr h
theorem zve {j : Nat} (hH : Has F M H) (hi : H[i]? = some (.vec tt z l.length sv c)) (ha : inn l a = some j) (hz : elems P t = some (.sl z)) :
  ∃ b, blk sv = [b] ∧ ∀ M', zih P t sv (.int kk a) M' = .val (.ptr b (0 + j * z)) M' := by
 obtain ⟨rfl, hlt⟩ := zz9 ha
 rcases hH.get hi with ⟨rfl, h0, _⟩ | ⟨b, hsv, hc, ho⟩
 ·omega
 ·refine ⟨b, by rcases hsv with rfl | rfl <;> rfl, fun M' => ?_⟩
  rcases hsv with rfl | rfl
  ·unfold zih
   simp only [hz, zol hlt]
   rfl
  ·unfold zih
   simp only [hz, zol hlt]
   rfl
theorem vec_elemR (hH : Has F M H) (hi : H[i]? = some (.vec tt z l.length sv c)) (ha : idx l a = some el) (hz : elems P t = some (.sl z)) :
  ∃ b j, blk sv = [b] ∧ (∀ M', zih P t sv (.int kk a) M' = .val (.ptr b (0 + j * z)) M') ∧ l[j]? = some el := by
 obtain ⟨j, rfl, hlt, hel⟩ := zux ha
 have hin : inn l (j : Int) = some j := by
  show (bif Nat.blt j l.length then some j else none) = some j
  rw [show Nat.blt j l.length = true from Nat.ble_eq_true_of_le hlt]
  rfl
 obtain ⟨b, h1, h2⟩ := zve (kk := kk) hH hi hin hz
 exact ⟨b, j, h1, h2, hel⟩
/-- Its cells at a place. -/
theorem Has.atR {j : Nat} {b : Pos} {n : Nat} {cs : List SV} (hH : Has F M H) (hi : H[i]? = some (.vec tt z n sv c)) (hb : blk sv = [b]) (hcs : (c.drop (j * z)).take z = cs) (hl : cs.length = z) : zlk (zj7 M) (.ptr b (0 + j * z)) cs := by
 rcases hH.get hi with ⟨rfl, _⟩ | ⟨d, hsv, _, ho⟩
 ·simp [blk] at hb
 ·have hbb : d = b := by rcases hsv with rfl | rfl <;> (simp only [blk, List.cons.injEq, and_true] at hb; exact hb)
  subst hbb
  subst hcs
  refine ⟨d, 0 + j * z, c, rfl, ho.row, ?_, ?_⟩
  ·rw [hl]
   rw [List.length_take, List.length_drop] at hl
   rcases Nat.eq_zero_or_pos z with rfl | hz
   ·simp
   ·omega
  ·rw [hl, Nat.zero_add]
/-- Cells appended. -/
theorem ExG.appendR {n n2 : Nat} {el : Elt} {s2 : SV} {c2 : List SV} (h : ar e p = some s) (h' : ar e q = some s2) (hH : Has F M H) (hi : H[i]? = some (.vec el.ty z n s c)) (hz1 : Nat.ble 1 z = true) (hone : ones c2 = true) (hx : appT P t u = some el) (hsz : el.size = z)
  (hlz : zuj el s2 = some n2) (hnew : zif M z n2 s2 = some c2) (hc2 : c2.length = n2 * z) (hl1 : n + n2 ≤ 4611686018427387904) (hl2 : 2 * (n + n2) * el.bytes ≤ 281474976710656) :
  ExG P M e (.call ⟨.builtin .append, #[p, q], #[t, u]⟩) fun s' M' => Has F M' (H.set i (.vec el.ty z (n + n2) s' (c ++ c2))) := by
 intro hw
 have d := Nat.le_of_ble_eq_true hz1
 have hxx : execO P M (treeOf e) (.call ⟨.builtin .append, #[p, q], #[t, u]⟩) = zj2 P t u s s2 M := by
  rw [zk7 (l := [s, s2]) (by show ars e [p, q] = _; simp only [ars, h, h'])]
  rfl
 rw [← hsz] at hnew
 have hsame : n2 = 0 → Has F M (H.set i (.vec el.ty z (n + n2) s (c ++ c2))) := by
  intro h0
  subst h0
  have : c2 = [] := List.eq_nil_of_length_eq_zero (by rw [hc2]; omega)
  subst this
  rw [List.append_nil]
  obtain ⟨hlt, he⟩ := List.getElem?_eq_some_iff.1 hi
  rw [Nat.add_zero, ← he, List.set_getElem_self]
  exact hH
 have hcl : c.length = n * z := by
  rcases hH.get hi with ⟨_, h0, hc0⟩ | ⟨_, _, hc, _⟩
  ·rw [h0, hc0]; simp
  ·exact hc
 have hlenR : (c ++ c2).length = (n + n2) * z := by rw [List.length_append, hcl, hc2, Nat.add_mul]
 have hnewrow : ∀ (M1 : Mem), M1.next = M.next → M1.floor = M.floor → WF M1 → RoK M M1 → (∀ b o, b ∉ (Ent.vec el.ty z n s c).fp → Own M b o → Own M1 b o) →
   Has F ⟨M1.t.put (some (.row el.ty (.head 0) (c ++ c2))) M1.next, M1.next.succ, M1.floor⟩ (H.set i (.vec el.ty z (n + n2) (.ope M.next 0 (n + n2) el.size) (c ++ c2))) := by
  intro M1 e1 e2 hw1 hro hk
  have hm := hw1.memLe_new (.row el.ty (.head 0) (c ++ c2))
  refine hH.upd hi (hro.trans hm.rok) (fun b o hb hbo => hm.own b o (hk b o hb hbo)) (.inr ⟨M.next, .inr (by rw [hsz]), hlenR, ?_⟩) fun b hb => ?_
  ·rw [← e1]
   exact hw1.own_new _
  ·simp only [Ent.fp, blk, List.mem_cons, List.not_mem_nil, or_false] at hb
   subst hb
   exact .inr (Nat.le_refl _)
 have hgrow : ∀ M1 : Mem, grow (.head 0) M1 el (n + n2) (c ++ c2) = .val (.ope M1.next 0 (n + n2) el.size) ⟨M1.t.put (some (.row el.ty (.head 0) (c ++ c2))) M1.next, M1.next.succ, M1.floor⟩ := by
  intro M1
  exact zw6 hl1 hl2 (by omega)
 rcases hH.get hi with ⟨rfl, h0, hc0⟩ | ⟨bb, hs, hlc, hown⟩
 ·cases hn2 : n2 with
  | zero =>
   subst hn2
   have a : c2 = [] := List.eq_nil_of_length_eq_zero (by rw [hc2]; omega)
   subst a
   exact ⟨.nils, M, by rw [hxx]; exact zob hx hlz hnew, .refl hw, hsame rfl⟩
  | succ r0 =>
   rw [← hn2]
   have hg := hgrow M
   have e0 : n + n2 = n2 := by rw [h0]; omega
   refine ⟨_, _, ?_, hw.anew _, hnewrow M rfl rfl hw (.refl M) (fun _ _ _ h => h)⟩
   rw [hxx]
   have := zo3 (P := P) (M := M) (t := t) (u := u) (el := el) (s2 := s2) (j := r0) (new := c2) hx (by rw [← hn2]; exact hlz) (by rw [← hn2]; exact hnew)
   rw [this, show r0 + 1 = n + n2 by omega]
   rw [hc0, List.nil_append] at hg ⊢
   exact hg
 ·have hrow : zj7 M bb = some c := hown.row
  have hle' : Nat.ble (Nat.add 0 (n * el.size)) (len c) = true := by
   rw [zio, hlc, hsz]
   exact Nat.ble_eq_true_of_le (by simp)
  have htake : c.take (n * el.size) = c := List.take_of_length_le (by rw [hlc, hsz]; exact Nat.le_refl _)
  rcases hs with rfl | rfl
  ·have hfirst : zif M el.size n (.slice bb 0 n n) = some c := by
    unfold zif
    simp only [hrow, zki, zkj, Nat.mul_eq, List.drop_zero, hle', htake]
   cases hn2 : n2 with
   | zero =>
    subst hn2
    have a : c2 = [] := List.eq_nil_of_length_eq_zero (by rw [hc2]; omega)
    subst a
    refine ⟨.slice bb 0 n n, M, ?_, .refl hw, hsame rfl⟩
    rw [hxx]
    unfold zj2
    have g2 : zuj el s2 = some 0 := hlz
    have g3 : zif M el.size 0 s2 = some [] := hnew
    have g4 : Nat.ble (Nat.add n 0) n = true := Nat.ble_eq_true_of_le (Nat.le_refl _)
    simp only [hx, g2, g3, g4]
    rfl
   | succ r0 =>
    rw [← hn2]
    refine ⟨_, _, ?_, hw.anew _, hnewrow M rfl rfl hw (.refl M) (fun _ _ _ h => h)⟩
    rw [hxx]
    unfold zj2
    have g4 : Nat.ble (Nat.add n n2) n = false := by
     cases hb : Nat.ble (Nat.add n n2) n with
     | false => rfl
     | true => have h9 : n + n2 ≤ n := Nat.le_of_ble_eq_true hb; omega
    simp only [hx, hlz, hnew, g4, hfirst, zj1]
    exact hgrow M
  ·have hfirst : zif M el.size n (.ope bb 0 n z) = some c := by
    unfold zif
    simp only [hrow, zki, zkj, Nat.mul_eq, List.drop_zero, hle', htake]
   have hok : zyh M bb = some (el.ty, .head 0) := by
    unfold zyh
    have ha : above M bb = true := Nat.ble_eq_true_of_le hown.low
    simp only [hown.get, ha]
   cases hn2 : n2 with
   | zero =>
    subst hn2
    have a : c2 = [] := List.eq_nil_of_length_eq_zero (by rw [hc2]; omega)
    subst a
    exact ⟨.ope bb 0 n z, M, by rw [hxx]; exact zo7 hx hlz hnew (by rw [hsz]; exact Nat.beq_refl z) hok hfirst, .refl hw, hsame rfl⟩
   | succ r0 =>
    rw [← hn2]
    have hdrop : zl4 M bb = ⟨M.t.put none bb, M.next, M.floor⟩ := by cases M; rfl
    have hw0 := hw.put (o := none) hown.lt
    have hw1 : WF ⟨M.t.put none bb, M.next, M.floor⟩ := hw0.wf
    refine ⟨_, _, ?_, hw0.trans (hw1.anew _), hnewrow ⟨M.t.put none bb, M.next, M.floor⟩ rfl rfl hw1 (zpp hown rfl) (fun b o hb hbo => zlj b o hb hbo)⟩
    rw [hxx]
    have f2 : Nat.beq el.ty el.ty = true := Nat.beq_refl _
    have f3 : zpz (.head 0) (Nat.add 0 (Nat.mul n el.size)) = true := rfl
    have h5 := zoa (P := P) (M := M) (t := t) (u := u) (el := el) (s2 := s2) (j := r0) (off := 0) (q := n) (z := z) (bb := bb) (new := c2) (old := c) hx (by rw [← hn2]; exact hlz) (by rw [← hn2]; exact hnew) (by rw [hsz]; exact Nat.beq_refl z) hok hfirst hone f2 f3
    rw [h5, ← hn2, hdrop, zj1]
    exact hgrow ⟨M.t.put none bb, M.next, M.floor⟩
theorem ExG.appendQ {el : Elt} {s2 : SV} {l2 : List α} (h : ar e p = some s) (h' : ar e q = some s2) (hH : Has F M H) (hi : H[i]? = some (.vec el.ty z l.length s c)) (hc : Rows R z c l) (h1 : ∀ cs a, R cs a → ones cs = true) (hz1 : Nat.ble 1 z = true) (hx : appT P t u = some el) (hsz : el.size = z)
  (h2 : Slc f z R s2 l2) (hf : RdLe f (zj7 M)) (hl : apd el.bytes l l2 = some l') :
  ExG P M e (.call ⟨.builtin .append, #[p, q], #[t, u]⟩) fun s' M' => ∃ c', Rows R z c' l' ∧ Has F M' (H.set i (.vec el.ty z l'.length s' c')) := by
 intro hw
 obtain ⟨g1, g2, rfl⟩ := zuv hl
 obtain ⟨c2, hn, hr⟩ := zya h2 hf
 obtain ⟨v, M', k1, k2, k3⟩ := ExG.appendR h h' hH hi hz1 (hr.ones h1) hx hsz (len_slc h2) hn hr.1 g1 g2 hw
 exact ⟨v, M', k1, k2, c ++ c2, hc.append hr, by rw [List.length_append]; exact k3⟩
theorem ExG.builtR {el : Elt} {j : Nat} {ps : Array (Nat × Operand)} {r : List (Nat × SV)} (h : zzp e ps.toList = some r) (hx : sliceElt P t = some el) (hj : Nat.ble (j * el.size) 16777216 = true) (hf : fillS (fun i => some (Nat.mul i el.size, el.size)) (rep j el.zero) r = some c) (hc : c.length = j * z) (hH : Has F M H) :
  ExG P M e (.buildSlice t j ps) fun s M' => Has F M' (.vec el.ty z j s c :: H) :=
 ExG.newVec (zn2 h hx hj hf) hc hH
end

section
variable {fx : Fx} {n : Nat} {Q : SV → Mem → Prop} {e : Env} {k : List SItem} {M : Mem} {F : Rd} {H : List Ent}
theorem Run.frozeAt {b : Pos} {tt : TypeId} {rk : RK} {c : List SV} {t : Nat} {v : SV} (ht : lk t e = some v) (hv : ∀ m : Map, m b = none → conc m v = none) (ho : Own M b (.row tt rk c)) (hrun : Run P fx n Q e k ⟨M.t.put (some (.ro c)) b, M.next, M.floor⟩) : Run P fx n Q e k M := by
 intro hw
 have ha : Aft M ⟨M.t.put (some (.ro c)) b, M.next, M.floor⟩ := hw.put ho.lt
 obtain ⟨s, M', hq, ha2, hto⟩ := hrun ha.wf
 refine ⟨s, M', hq, ha.trans ha2, ?_⟩
 intro hmix B m w fr frs cs0 hr hf hcs
 have hpl : m b ≠ none := by
  intro hm
  obtain ⟨c, tm, todo, rfl, hcx, htr, hn, hk⟩ := hf
  obtain ⟨u, _, hu⟩ := htr t v (by rw [zi7]; exact ht)
  rw [hv m hm] at hu
  simp at hu
 have hst := zi0.froze hr ho hpl
 obtain ⟨fr', w', m', x, g1, g2, g3, g4, g5⟩ := hto hmix B m w fr frs cs0 hst.rel hf hcs
 exact ⟨fr', w', m', x, g1, hst.trans g2, g3, g4, g5⟩
end

/- MAPS -/
section
variable {K V : Type} {ke : K → SV} {ve : V → SV} {eq : K → K → Bool}
variable {F : Rd} {H : List Ent} {M : Mem} {e : Env} {t : TypeId} {p q r : Operand} {i : Nat} {b : Pos} {l : List (K × V)} {kt et : TypeId} {k : K} {v : V}
end
end Go.Ev

/- Structs with arrays of numbers: a row whose cells are a list. -/
namespace Go.Ev
open Go.RowKit
section
variable {P : Program} {F : Rd} {M : Mem} {H : List Ent} {e : Env} {p q : Operand} {t tt : TypeId} {rk : RK} {α : Type} {enc : α → List SV} {i j n off : Nat} {bb : Pos} {l l' : List α} {a : α}
end
/-- What a slice weighs that is an argument. -/
theorem arg_weight {P : Program} {α H : Type} {henc : TypeId × Value → H} {W : World} {held : Bool} {z : Nat} {enc : α → List SV} {t e : TypeId} (ht : P.underlying t = some (.slice e)) {v : Value} {fuel : Nat} {x : DataW H × List MemPlace} (h : DataW.trod henc P W 0 (fun _ => true) held fuel t [v] = some x)
  {l : List α} {r : ARow} {cap : Nat} (ha : FlatArg W z enc v l r cap) {B : Nat} (hB : ∀ y ∈ x.1.weights P t, y ≤ B) : l.length * P.bytesOf e ≤ B := by
 have hv := ha.val (fun _ => r.map (·.1)) 0 (fun x hx => by rw [hx]; rfl)
 cases r with
 | none =>
  rcases ha.slc (fun _ => none) 0 (fun x hx => by simp at hx) with ⟨_, rfl⟩ | ⟨b, off, c, _, hf, _⟩
  ·simp
  ·simp at hf
 | some y =>
  simp only [argS, conc, Option.map_some, Option.some.injEq] at hv
  rcases Deep.open_slice ht h with ⟨hcs, _⟩ | ⟨a, len, cap', m, n, D, Pl', hcs, _, _, _, _, hx, _⟩
  ·rw [← hv] at hcs
   simp at hcs
  ·rw [← hv] at hcs
   simp only [List.cons.injEq, Value.slice.injEq, and_true] at hcs
   obtain ⟨_, rfl, _⟩ := hcs
   subst hx
   have := hB ((((List.range l.length).map D).length + ((List.range (m - l.length)).map fun j => D (l.length + j)).length) * P.bytesOf e) (by
    unfold DataW.weights
    rw [ht]
    exact List.mem_cons_self)
   rw [List.length_map, List.length_range] at this
   exact Nat.le_trans (Nat.mul_le_mul_right _ (Nat.le_add_right _ _)) this
theorem conc_aggL {m : Map} {l : List SV} {vs : List Value} (h : concs m l = some vs) : conc m (.agg l) = some (.agg vs.toArray) := by
 show (concs m l).map _ = _
 rw [h]
 rfl
/-- math/bits.Add64 and Sub64, which have no body. -/
def add64 (x y c : Int) : Option (Int × Int) := match x, y, c with
 | .ofNat x, .ofNat y, .ofNat c => bif Nat.ble c 1 then some (((x + y + c) % 18446744073709551616 : Nat), ((x + y + c) / 18446744073709551616 : Nat)) else none
 | _, _, _ => none
def sub64 (x y c : Int) : Option (Int × Int) := match x, y, c with
 | .ofNat x, .ofNat y, .ofNat c => bif Nat.ble c 1 then some (((x + 18446744073709551616 - y - c) % 18446744073709551616 : Nat), bif Nat.ble (x + 1) (y + c) then 1 else 0) else none
 | _, _, _ => none
section
variable {P : Program} {M : Mem} {e : Env} {f : FuncId} {xs : Array Operand} {ts : Array TypeId}
theorem y0p {l : List SV} {k : ExtK} (h : ars e xs.toList = some l) (hk : makeK P f = none) (hc : callable P f = false) (hx : extK P f = some k) : execO P M (treeOf e) (.call ⟨.value (.func f), xs, ts⟩) = y0b k l M := by
 show zpv P M (treeOf e) xs (.func f) = _
 unfold zpv
 rw [zlb h M]
 show zmj P (.fn (.func f) [] []) l M = _
 unfold zmj
 simp only [hk]
 unfold zte
 simp only [hc, hx, zj1]
 simp
end
end Go.Ev

