/- A part of the small machine. -/
import Derived.Test.YtjddbfpinjjkkaaGreatDoorEvL6
set_option linter.unusedVariables false
namespace Go.Ev
open Go.RowKit
variable {P : Program}
theorem MRel.froze {B : Nat} {m : Map} {M : Mem} {w : World} (hr : MRel B m M w) {b : Pos} {tt : TypeId} {rk : RK} {c : List SV} (hb : M.t.get b = some (.row tt rk c)) : MRel B m ⟨M.t.put (some (.ro c)) b, M.next, M.floor⟩ w := by
 have hg : ∀ b' o, (M.t.put (some (SObj.ro c)) b).get b' = some o → b' = b ∧ o = .ro c ∨ b' ≠ b ∧ M.t.get b' = some o := by
  intro b' o h
  by_cases he : b = b'
  ·subst he
   rw [Tree.get_put_same] at h
   exact .inl ⟨rfl, (Option.some.inj h).symm⟩
  ·rw [Tree.get_put_other _ _ he] at h
   exact .inr ⟨fun e => he e.symm, h⟩
 refine ⟨fun b' o p h hp => ?_, fun b1 b2 o1 o2 p1 p2 h1 h2 how hp1 hp2 he => ?_, fun b' h => ⟨(hr.fresh b' h).1, ?_⟩, hr.bound, fun b' o p h ho hp => ?_, hr.base, fun b' c' h => ?_, hr.flo⟩
 ·rcases hg b' o h with ⟨rfl, rfl⟩ | ⟨_, h⟩
  ·obtain ⟨e, fz, pre, vs, post, h1, _, h2, h3, h4, _⟩ := hr.objs b' _ p hb hp
   exact ⟨e, fz, pre, vs, post, h1, trivial, h2, h3, h4, fun t ht => by simp at ht⟩
  ·exact hr.objs b' o p h hp
 ·rcases hg b1 o1 h1 with ⟨e1, f1⟩ | ⟨_, g1⟩ <;> rcases hg b2 o2 h2 with ⟨e2, f2⟩ | ⟨_, g2⟩
  ·exact e1.trans e2.symm
  ·exact hr.inj b1 b2 _ o2 p1 p2 (e1 ▸ hb) g2 (.inl rfl) hp1 hp2 he
  ·exact hr.inj b1 b2 o1 _ p1 p2 g1 (e2 ▸ hb) (.inr rfl) hp1 hp2 he
  ·exact hr.inj b1 b2 o1 o2 p1 p2 g1 g2 how hp1 hp2 he
 ·show Tree.get b' (M.t.put _ _) = none
  rw [Tree.get_put_other _ _ (fun e => by subst e; have := (hr.fresh b h).2; rw [hb] at this; simp at this)]
  exact (hr.fresh b' h).2
 ·rcases hg b' o h with ⟨rfl, rfl⟩ | ⟨_, h⟩
  ·simp [SObj.own] at ho
  ·exact hr.low b' o p h ho hp
 ·rcases hg b' _ h with ⟨_, h⟩ | ⟨_, h⟩
  ·cases h
  ·exact hr.glob b' c' h
theorem z82.froze {B : Nat} {m : Map} {M : Mem} {w : World} (hr : MRel B m M w) {b : Pos} {tt : TypeId} {rk : RK} {c : List SV} (hb : Own M b (.row tt rk c)) (hpl : m b ≠ none) : z82 B m M w m ⟨M.t.put (some (.ro c)) b, M.next, M.floor⟩ w := by
 refine ⟨hr.froze hb.get, fun _ _ => rfl, fun b' hl hm => ?_, Nat.le_refl _, Below.refl _ _, fun _ _ _ => rfl, fun k hk ho => ?_, fun b' hl => ?_, rfl, fun b' c' h => ?_, fun b' p hb' hp _ => absurd hp (by rw [(hr.fresh b' hb').1]; simp)⟩
 ·by_cases he : b = b'
  ·subst he
   exact absurd hm hpl
  ·show Tree.get b' (M.t.put _ _) = _
   rw [Tree.get_put_other _ _ he]
 ·obtain ⟨d, x, q, hx, hxo, hq, he⟩ := ho
  by_cases hd : b = d
  ·subst hd
   rw [Tree.get_put_same] at hx
   simp only [Option.some.injEq] at hx
   subst hx
   simp [SObj.own] at hxo
  ·rw [Tree.get_put_other _ _ hd] at hx
   exact ⟨d, x, q, hx, hxo, hq, he⟩
 ·show Tree.get b' (M.t.put _ _) = _
  rw [Tree.get_put_other _ _ (fun e => by subst e; have := hb.low; omega)]
 ·by_cases he : b = b'
  ·subst he
   rw [Tree.get_put_same] at h
   simp at h
  ·rw [Tree.get_put_other _ _ he] at h
   exact h
section
variable {fx : Fx} {n : Nat} {Q : SV → Mem → Prop} {e : Env} {k : List SItem} {M : Mem} {F : Rd} {H : List Ent} {x y : Ent}
theorem Run.freeze {α : Type} {enc : α → List SV} {i t z : Nat} {sv : SV} {l : List α} {tt : TypeId} (ht : lk t e = some sv) (hH : Has F M H) (hi : H[i]? = some (.vec tt z l.length sv (l.flatMap enc))) (hlen : ∀ a, (enc a).length = z)
  (next : ∀ F' M', zj2 F F' → Has F' M' (H.set i (.vec 0 0 0 .nils [])) → Slc F' z (FlatR enc) sv l → Run P fx n Q e k M') : Run P fx n Q e k M := by
 rcases hH.get hi with ⟨rfl, h0, hc0⟩ | ⟨b, hsv, hc, ho⟩
 ·have hl : l = [] := List.length_eq_zero_iff.1 h0
  subst hl
  refine next F M (fun _ _ h => h) ?_ (.inl ⟨.inl rfl, rfl⟩)
  exact hH.upd hi (.refl M) (fun _ _ _ h => h) (.inl ⟨rfl, rfl, rfl⟩) (fun b hb => by simp [Ent.fp, blk] at hb)
 ·have hnx := hH.upd (y := .vec 0 0 0 .nils []) (M' := ⟨M.t.put (some (.ro (l.flatMap enc))) b, M.next, M.floor⟩) hi (zhg ho rfl) (fun c o hcn hco => zcx c o (by rcases hsv with rfl | rfl <;> exact hcn) hco) (.inl ⟨rfl, rfl, rfl⟩) (fun b hb => by simp [Ent.fp, blk] at hb)
  have hro : ro ⟨M.t.put (some (.ro (l.flatMap enc))) b, M.next, M.floor⟩ b = some (l.flatMap enc) := zr8 ho.lt (.inl (Tree.get_put_same _ _ _))
  have hslc : Slc (ro ⟨M.t.put (some (.ro (l.flatMap enc))) b, M.next, M.floor⟩) z (FlatR enc) sv l := by
   refine .inr ⟨b, 0, _, ?_, hro, by rw [hc]; omega, fun i a ha => by rw [Nat.zero_add]; exact zd9 hlen l i a ha⟩
   rcases hsv with h | h
   ·exact .inl ⟨_, Nat.le_refl _, h⟩
   ·exact .inr h
  have hrun := next _ _ hnx.base (hnx.upF fun _ _ h => h) hslc
  intro hw
  have ha : Aft M ⟨M.t.put (some (.ro (l.flatMap enc))) b, M.next, M.floor⟩ := hw.put ho.low ho.lt
  obtain ⟨s, M', hq, ha2, hto⟩ := hrun ha.wf
  refine ⟨s, M', hq, ha.trans ha2, ?_⟩
  intro hmix B m w fr frs cs0 hr hf hcs
  have hpl : m b ≠ none := by
   intro hm
   obtain ⟨c, tm, todo, rfl, hcx, htr, hn, hk⟩ := hf
   obtain ⟨v, _, hv⟩ := htr t sv (by rw [z88]; exact ht)
   rcases hsv with rfl | rfl <;> simp [conc, hm] at hv
  have hst := z82.froze hr ho hpl
  obtain ⟨fr', w', m', x, g1, g2, g3, g4, g5⟩ := hto hmix B m w fr frs cs0 hst.rel hf hcs
  exact ⟨fr', w', m', x, g1, hst.trans g2, g3, g4, g5⟩
theorem ExG.storeFld {α : Type} {enc : α → List SV} {i j o zz z : Nat} {bb : Pos} {s sv : SV} {v v' : α} {l l' : List α} {tt t : TypeId} {p q : Operand} (h : ar e p = some (.ptr bb (0 + j * z + o))) (h' : ar e q = some s) (hH : Has F M H) (hi : H[i]? = some (.vec tt z l.length sv (l.flatMap enc))) (hb : blk sv = [bb]) (hv : l[j]? = some v) (hu : upd l j v' = some l') (hz : szOf P t = some zz)
  (hs : enc v' = (enc v).take o ++ (cellsOf s ++ (enc v).drop (o + zz))) (hl : (cellsOf s).length = zz) (ho1 : ones (cellsOf s) = true) (hoz : Nat.ble (o + zz) z = true) (hlen : ∀ a, (enc a).length = z) :
  ExG P M e (.store t p q) fun s M' => s = .tuple [] ∧ Has F M' (H.set i (.vec tt z l'.length sv (l'.flatMap enc))) := by
 intro hw
 obtain ⟨j', hj, hlt, rfl⟩ := zml hu
 have hj' : j' = j := by omega
 subst hj'
 have hoz' := Nat.le_of_ble_eq_true hoz
 rcases hH.get hi with ⟨rfl, _⟩ | ⟨b, hsv, hc, ho⟩
 ·simp [blk] at hb
 ·have hbb : b = bb := by rcases hsv with rfl | rfl <;> (simp only [blk, List.cons.injEq, and_true] at hb; exact hb)
  subst hbb
  have hle : (j' + 1) * z ≤ l.length * z := Nat.mul_le_mul_right z hlt
  rw [Nat.succ_mul] at hle
  have hel := zd9 hlen l j' v hv
  have hcut : (l.set j' v').flatMap enc = (l.flatMap enc).take (0 + j' * z + o) ++ (cellsOf s ++ (l.flatMap enc).drop (0 + j' * z + o + zz)) := by
   rw [zi4 hlen l j' v' hlt, hs, Nat.zero_add, ← hel]
   generalize hX : l.flatMap enc = X at hc
   have hXl : j' * z + z ≤ X.length := by omega
   rw [List.take_take, Nat.min_eq_left (by omega), List.drop_take, List.drop_drop, List.take_add (i := j' * z) (j := o)]
   simp only [List.append_assoc]
   congr 2
   congr 1
   rw [show j' * z + (o + zz) = j' * z + o + zz by omega]
   have : X.drop (j' * z + o + zz) = (X.drop (j' * z + o + zz)).take (z - (o + zz)) ++ (X.drop (j' * z + o + zz)).drop (z - (o + zz)) := (List.take_append_drop _ _).symm
   rw [List.drop_drop, show j' * z + o + zz + (z - (o + zz)) = j' * z + z by omega] at this
   exact this.symm
  have hput := zce (l := cellsOf s) (off := 0 + j' * z + o) (zz := zz) (c' := (l.set j' v').flatMap enc) ho hl rfl (by rw [hc]; omega) ho1 hcut
  refine ⟨_, _, zgk h h' hz hl hput, hw.put ho.low ho.lt, rfl, hH.upd hi (zhg ho rfl) ?_ (.inr ⟨b, by simpa using hsv, by rw [zag hlen], ⟨Tree.get_put_same _ _ _, ho.low, ho.lt⟩⟩) fun c hc => .inl hc⟩
  intro c o hc
  refine zcx c o ?_
  show c ∉ [b]
  rw [← hb]; exact hc
end
end Go.Ev
namespace Go.Ev
open Go.RowKit
variable {P : Program}
section
variable {fx : Fx} {n : Nat} {Q : SV → Mem → Prop} {e : Env} {k : List SItem} {M : Mem} {all : Array Oper} {F : Rd} {H : List Ent}
theorem Has.le (hH : Has F M H) : zj2 F (rd M) := fun b c hb => ro_rd (hH.base b c hb)
theorem rdLe_roF (hH : Has F M H) : zj2 F (z9k M) := fun b c hb => zrq (hH.base b c hb)
theorem Run.callP {r : List Oper} {d : Option Tmp} {op : Op} {ty : TypeId} {pos : String} {af : Array Edge} {gd : Option (Nat × Bool)} {g : FuncId} {xs : List SV} {s0 : SV}
  (hw : z8e all (treeOf e) ⟨d, op, ty, pos, af, gd⟩ = some true) (hx : execO P M (treeOf e) op = .enter g xs M) (hd : okD d n = true) (hc : CallsM P g xs M fun s M' => s = s0 ∧ M' = M)
  (next : Run P fx n Q (putE d s0 e) (.ops all r :: k) M) : Run P fx n Q e (.ops all (⟨d, op, ty, pos, af, gd⟩ :: r) :: k) M :=
 Run.callX hw hx hd hc fun s M' h => by obtain ⟨rfl, rfl⟩ := h; exact next
theorem DrawG.callP {i : Nat} {op : Op} {ty : TypeId} {pos : String} {af : Array Edge} {g : Option (Nat × Bool)} {d : Option Tmp} {L : List Nat} {r : List PE} {f : FuncId} {xs : List SV} {s0 : SV} (ho : all[i]? = some ⟨d, op, ty, pos, af, g⟩) (hw : z8e all (treeOf e) ⟨d, op, ty, pos, af, g⟩ = some true) (hx : execO P M (treeOf e) op = .enter f xs M) (hd : okD d n = true) (hc : CallsM P f xs M fun s M' => s = s0 ∧ M' = M)
  (hs : z8g P all M (treeOf (putE d s0 e)) L = true) (h : DrawG P fx n Q all k r (putE d s0 e) M) : DrawG P fx n Q all k (.an i L :: r) e M :=
 DrawG.call ho hw hx hd hc fun v M' hv => by obtain ⟨rfl, rfl⟩ := hv; exact ⟨hs, h⟩
theorem none_le (F : Rd) : zj2 (fun _ => none) F := fun _ _ h => by cases h
end
end Go.Ev
namespace Go.Ev
open Go.RowKit
variable {P : Program}
theorem cells_one {s : SV} (h : one s = true) : cellsOf s = [s] := by cases s <;> first | rfl | simp [one] at h
theorem ones_nil : ones [] = true := rfl
theorem ones_cons {s : SV} {l : List SV} (h : one s = true) (h' : ones l = true) : ones (s :: l) = true := by
 show Bool.rec (motive := fun _ => Bool) false (ones l) (one s) = true
 rw [h]; exact h'
theorem slc_one {α : Type} {f : Rd} {z : Nat} {R : List SV → α → Prop} {s : SV} {l : List α} (h : Slc f z R s l) : one s = true := by
 rcases h with ⟨rfl | ⟨_, _, _, rfl⟩ | ⟨_, rfl⟩, _⟩ | ⟨b, off, c, ⟨cap, _, rfl⟩ | rfl, _⟩ <;> rfl
section
variable {fx : Fx} {n : Nat} {Q : SV → Mem → Prop} {e : Env} {k : List SItem} {M : Mem} {all : Array Oper} {F : Rd} {H : List Ent} {t : TypeId} {p q : Operand}
theorem vec_one (hH : Has F M H) {i tt z n : Nat} {sv : SV} {c : List SV} (hi : H[i]? = some (.vec tt z n sv c)) : one sv = true := by
 rcases hH.get hi with ⟨rfl, _⟩ | ⟨b, rfl | rfl, _⟩ <;> rfl
theorem ExG.box {s : SV} {c : List SV} (h : ar e p = some s) (hc : cellsOf s = c) (hH : Has F M H) : ExG P M e (.box t p) fun v M' => ∃ b, v = .ptr b 0 ∧ Has F M' (.obj b (.row t .whole c) :: H) := by
 subst hc
 exact ExG.new (v := fun b => .ptr b 0) (zt6 h) hH
theorem ExG.storeC {i : Nat} {bb : Pos} {off zz : Nat} {s : SV} {tt : TypeId} {rk : RK} {c c' cs : List SV} (h : ar e p = some (.ptr bb off)) (h' : ar e q = some s) (hcs : cellsOf s = cs) (hH : Has F M H) (hi : H[i]? = some (.obj bb (.row tt rk c))) (hz : szOf P t = some zz) (hl : cs.length = zz) (hk : zi8 rk off = true) (hle : Nat.ble (off + zz) c.length = true) (h1 : ones cs = true) (hc : c.take off ++ (cs ++ c.drop (off + zz)) = c') :
  ExG P M e (.store t p q) fun s M' => s = .tuple [] ∧ Has F M' (H.set i (.obj bb (.row tt rk c'))) := by
 subst hcs
 exact ExG.store h h' hH hi hz hl hk hle h1 hc
end
end Go.Ev
namespace Go.Ev
theorem Has.pickT {F : Rd} {M : Mem} {L T : List Ent} (h : Has F M (L ++ T)) (l : List Nat) (hl : zm3 l = true) {L' : List Ent} (he : zik l L = L') : Has F M (L' ++ T) := by
 have hL : Has F M L := ⟨h.base, fun x hx => h.ok x (List.mem_append_left _ hx), by
  have := h.nd
  rw [List.flatMap_append, List.nodup_append] at this
  exact this.1⟩
 have hp := hL.pick l hl he
 refine ⟨h.base, fun x hx => ?_, ?_⟩
 ·rcases List.mem_append.1 hx with hx | hx
  ·exact hp.ok x hx
  ·exact h.ok x (List.mem_append_right _ hx)
 ·have hn := h.nd
  rw [List.flatMap_append, List.nodup_append] at hn ⊢
  refine ⟨hp.nd, hn.2.1, ?_⟩
  rintro b hb c hc rfl
  obtain ⟨z, hz, hbz⟩ := List.mem_flatMap.1 hb
  rw [← he] at hz
  obtain ⟨j, _, hj⟩ := zcb hz
  exact hn.2.2 b (List.mem_flatMap.2 ⟨z, List.mem_of_getElem? hj, hbz⟩) b hc rfl
end Go.Ev
namespace Go.Ev
open Go.RowKit
variable {P : Program}
def FixIn (M : Mem) (l : List (Nat × List SV)) : Prop := ∀ x ∈ l, M.t.get (Pos.ofNat x.1) = some (.fix x.2) ∧ (Pos.ofNat x.1).num < M.next.num
noncomputable def fixE (x : Nat × List SV) : Ent := .fixd (Pos.ofNat x.1) x.2
theorem FixIn.frozen {M : Mem} {l : List (Nat × List SV)} (h : FixIn M l) : FixIn (frozen M) l := fun x hx => by
 obtain ⟨h1, h2⟩ := h x hx
 refine ⟨?_, h2⟩
 rw [z9y, h1]
 rfl
theorem Has.ofFix {M : Mem} {l : List (Nat × List SV)} (h : FixIn M l) : Has (ro M) M (l.map fixE) := by
 refine ⟨fun _ _ h => h, fun x hx => ?_, ?_⟩
 ·obtain ⟨y, hy, rfl⟩ := List.mem_map.1 hx
  exact h y hy
 ·have : (l.map fixE).flatMap Ent.fp = [] := by
   induction l with
   | nil => rfl
   | cons a l ih => rw [List.map_cons, List.flatMap_cons, ih fun x hx => h x (List.mem_cons_of_mem _ hx)]; rfl
  rw [this]
  exact List.nodup_nil
theorem Has.fixIn {F : Rd} {M : Mem} {H : List Ent} {l : List (Nat × List SV)} (hH : Has F M H) (h : ∀ x ∈ l, fixE x ∈ H) : FixIn M l := fun x hx => hH.ok _ (h x hx)
theorem FixIn.rel {n : Nat} {l : List (Nat × List SV)} (hn : (l.all fun x => Nat.blt x.1 n) = true) (hp : (l.all fun x => plain.plains x.2) = true) {B : Nat} {m : Map} {M : Mem} {w : World} (hr : MRel B m M w) (h : FixIn M l) : ∃ m', MRel w.heap.size m' (memFix n l) w := by
 have hn' : ∀ x ∈ l, x.1 < n := by
  intro x hx
  have := List.all_eq_true.1 hn x hx
  exact Nat.le_of_ble_eq_true this
 have hpl : ∀ x ∈ l, plain.plains x.2 = true := fun x hx => List.all_eq_true.1 hp x hx
 refine ⟨fun b => Option.bind ((zls l).get b) fun _ => m b, ?_⟩
 have hm : ∀ b p, Option.bind ((zls l).get b) (fun _ => m b) = some p → ∃ x ∈ l, b = Pos.ofNat x.1 ∧ (zls l).get b = some (.fix x.2) ∧ m b = some p := by
  intro b p hb
  obtain ⟨o, ho, hmb⟩ := Option.bind_eq_some_iff.1 hb
  obtain ⟨x, hx, h1, h2⟩ := zbo l b o ho
  subst h2
  exact ⟨x, hx, h1, ho, hmb⟩
 refine ⟨?_, ?_, ?_, ?_, ?_, Nat.le_refl _, ?_, Nat.zero_le _⟩
 ·intro b o p ho hb
  obtain ⟨x, hx, rfl, hg, hmb⟩ := hm b p hb
  have ho' : (zls l).get (Pos.ofNat x.1) = some o := ho
  rw [hg] at ho'
  simp only [Option.some.injEq] at ho'
  subst ho'
  obtain ⟨e, fz, pre, vs, post, g1, g2, g3, g4, g5, g6⟩ := hr.objs _ _ p (h x hx).1 hmb
  exact ⟨e, fz, pre, vs, post, g1, g2, g3, g4, (zbr (hpl x hx) _ _).trans g5, g6⟩
 ·intro b b' o o' p p' ho ho' how _ _ _
  obtain ⟨x, _, _, rfl⟩ := zbo l b o ho
  obtain ⟨x', _, _, rfl⟩ := zbo l b' o' ho'
  rcases how with h | h <;> simp [SObj.own] at h
 ·intro b hb
  have hnone : (zls l).get b = none := by
   cases hg : (zls l).get b with
   | none => rfl
   | some o =>
    obtain ⟨x, hx, rfl, _⟩ := zbo l b o hg
    have h1 : (Pos.ofNat n).num ≤ (Pos.ofNat x.1).num := hb
    rw [Pos.num_ofNat, Pos.num_ofNat] at h1
    have := hn' x hx
    omega
  refine ⟨?_, hnone⟩
  show Option.bind ((zls l).get b) _ = none
  rw [hnone]
  rfl
 ·intro b p hb
  obtain ⟨x, _, _, _, hmb⟩ := hm b p hb
  exact hr.bound b p hmb
 ·intro b o p ho hown _
  obtain ⟨x, _, _, rfl⟩ := zbo l b o ho
  simp [SObj.own] at hown
 ·intro b c hc
  have hc' : (zls l).get b = some (.fix c) := hc
  obtain ⟨x, hx, rfl, h2⟩ := zbo l b _ hc'
  obtain ⟨z, hz, hl⟩ := hr.glob _ _ (h x hx).1
  refine ⟨z, ?_, by cases h2; exact hl⟩
  show Option.bind ((zls l).get _) _ = _
  rw [hc']
  exact hz
theorem CallsM.closedFix {f : FuncId} {n : Nat} {l : List (Nat × List SV)} (hn : (l.all fun x => Nat.blt x.1 n) = true) (hp : (l.all fun x => plain.plains x.2) = true) (hc : ∀ w m, MRel w.heap.size m (memFix n l) w → Calls P f #[] w fun e w' => e = .returned (.bool true) ∧ Below w.heap.size w w') {M : Mem} (h : FixIn M l) : CallsM P f [] M fun s M' => s = .bool true ∧ M' = M := by
 intro hw
 refine ⟨.bool true, M, ?_, .refl hw, rfl, rfl⟩
 intro _ B m w vs hr has c cs
 have hvs : vs = #[] := by
  have := concs_nil m
  rw [this] at has
  have := Option.some.inj has
  exact (Array.toList_eq_nil_iff.1 this.symm)
 subst hvs
 obtain ⟨m1, hr1⟩ := FixIn.rel hn hp hr h
 obtain ⟨e, w', fr, ⟨rfl, hb⟩, hcome, hfn, hl⟩ := hc w m1 hr1 (c :: cs)
 exact ⟨m, w', .bool true, ⟨hr.kept hb, fun _ _ => rfl, fun _ _ _ => rfl, Nat.le_refl _, hb.mono hr.base, fun k hk _ => hb.block k hk, fun _ _ h => h, fun _ _ => rfl, rfl, fun _ _ h => h, fun b p hbn hp _ => absurd hp (by rw [(hr.fresh b hbn).1]; simp)⟩, rfl, Steps.trans hcome (.one (step_leave_returned hl))⟩
abbrev BRow := Option (Bool × Pl × List SV)
def zrm (x : Bool × Pl × List SV) : SObj := bif x.1 then .fix x.2.2 else .ro x.2.2
def mapB (l : List BRow) : Map := fun b => match l[b.num - 1]? with
 | some (some x) => some x.2.1
 | _ => none
noncomputable def zin : Nat → List BRow → Tree SObj
 | _, [] => .leaf
 | i, none :: l => zin (i + 1) l
 | i, some x :: l => Tree.put (some (zrm x)) (Pos.ofNat i) (zin (i + 1) l)
theorem zdy (b : Pos) : ∀ (l : List BRow) (i : Nat), (zin i l).get b = if i < b.num then (match l[b.num - (i + 1)]? with
 | some (some x) => some (zrm x)
 | _ => none) else none
 | [], i => by rw [zin, Tree.get_leaf]; simp
 | none :: l, i => by
  rw [zin, zdy b l (i + 1)]
  by_cases h : i < b.num
  ·rw [if_pos h]
   by_cases h1 : i + 1 < b.num
   ·rw [if_pos h1, show b.num - (i + 1) = (b.num - (i + 1 + 1)) + 1 by omega, List.getElem?_cons_succ]
   ·rw [if_neg h1, show b.num - (i + 1) = 0 by omega]; rfl
  ·rw [if_neg h, if_neg (by omega)]
 | some x :: l, i => by
  rw [zin, Tree.get_put, zdy b l (i + 1)]
  by_cases e : Pos.ofNat i = b
  ·have hn : b.num = i + 1 := by rw [← e, Pos.num_ofNat]
   rw [if_pos e, if_pos (by omega), show b.num - (i + 1) = 0 by omega]; rfl
  ·rw [if_neg e]
   by_cases h : i < b.num
   ·have hne : b.num ≠ i + 1 := by
     intro hn
     exact e (Pos.num_inj (by rw [Pos.num_ofNat, hn]))
    rw [if_pos h, if_pos (by omega), show b.num - (i + 1) = (b.num - (i + 1 + 1)) + 1 by omega, List.getElem?_cons_succ]
   ·rw [if_neg h, if_neg (by omega)]
noncomputable def memB (l : List BRow) : Mem := ⟨zin 0 l, Pos.ofNat l.length, l.length + 1⟩
theorem zcv {l : List BRow} {b : Pos} {o : SObj} (h : (memB l).t.get b = some o) : ∃ x, l[b.num - 1]? = some (some x) ∧ o = zrm x := by
 have h' : (zin 0 l).get b = some o := h
 rw [zdy, if_pos (by have := b.num_pos; omega), Nat.zero_add] at h'
 split at h'
 ·rename_i x hx
  exact ⟨x, hx, (Option.some.inj h').symm⟩
 ·simp at h'
theorem zid {l : List BRow} {b : Pos} {p : Pl} (h : mapB l b = some p) : ∃ x, l[b.num - 1]? = some (some x) ∧ p = x.2.1 := by
 unfold mapB at h
 split at h
 ·rename_i x hx
  exact ⟨x, hx, (Option.some.inj h).symm⟩
 ·simp at h
theorem mapB_at {l : List BRow} {j : Nat} {x : Bool × Pl × List SV} (h : l[j]? = some (some x)) : mapB l (Pos.ofNat j) = some x.2.1 := by
 unfold mapB
 rw [Pos.num_ofNat, Nat.add_sub_cancel, h]
theorem zky {l : List BRow} {j : Nat} {x : Bool × Pl × List SV} (h : l[j]? = some (some x)) : (memB l).t.get (Pos.ofNat j) = some (zrm x) ∧ (Pos.ofNat j).num < (memB l).next.num := by
 have hj : j < l.length := (List.getElem?_eq_some_iff.1 h).1
 refine ⟨?_, ?_⟩
 ·show (zin 0 l).get (Pos.ofNat j) = _
  rw [zdy, Pos.num_ofNat, if_pos (by omega), show j + 1 - (0 + 1) = j by omega, h]
 ·show (Pos.ofNat j).num < (Pos.ofNat l.length).num
  rw [Pos.num_ofNat, Pos.num_ofNat]; omega
theorem memB_ro {l : List BRow} {j : Nat} {p : Pl} {c : List SV} (h : l[j]? = some (some (false, p, c))) : ro (memB l) (Pos.ofNat j) = some c := zr8 (zky h).2 (.inl (zky h).1)
theorem memB_fix {l : List BRow} {j : Nat} {p : Pl} {c : List SV} (h : l[j]? = some (some (true, p, c))) : (memB l).t.get (Pos.ofNat j) = some (.fix c) ∧ (Pos.ofNat j).num < (memB l).next.num := zky h
theorem fix_row {W : World} {l : List (Nat × List SV)} (h : FixOK W l) {x : Nat × List SV} (hx : x ∈ l) : x.1 < W.heap.size ∧ ∀ m, RowRel m ⟨x.1, 0, x.2.length⟩ none .lost x.2 W.heap[x.1]? := by
 obtain ⟨e, vs, hh, hc⟩ := h x hx
 have hl := z86 hc
 exact ⟨(Array.getElem?_eq_some_iff.1 hh).1, fun m => ⟨e, (0, 0), [], vs, [], by simp [hh], trivial, rfl, by simp [hl], z8s (fun _ _ hb => by simp at hb) _ _ hc, fun t ht => by simp at ht⟩⟩
def argB (r : ARow) : BRow := r.map fun x => (false, x.1, x.2)
end Go.Ev
namespace Go.Ev
theorem ex_nilP {P : Program} {M : Mem} {e : Env} {x : Operand} {b : Pos} {o : Nat} (h : ar e x = some (.ptr b o)) : execO P M (treeOf e) (.nilCheck x) = .val (.ptr b o) M := by
 show z87 (arg M (treeOf e) x) (fun x => znm P x M) = _
 rw [z8j h]
 rfl
end Go.Ev
namespace Go.Ev
open Go.RowKit
variable {P : Program}
def Rows {α : Type} (R : List SV → α → Prop) (z : Nat) (c : List SV) (l : List α) : Prop := c.length = l.length * z ∧ ∀ (i : Nat) (a : α), l[i]? = some a → R ((c.drop (i * z)).take z) a
section
variable {α : Type} {R R' : List SV → α → Prop} {z : Nat} {c c2 cs : List SV} {l l2 : List α} {a : α}
theorem Rows.nil : Rows R z [] [] := ⟨by simp, fun i a h => by simp at h⟩
theorem Rows.one (hl : cs.length = z) (h : R cs a) : Rows R z cs [a] := by
 refine ⟨by simp [hl], fun i b hb => ?_⟩
 cases i with
 | zero =>
  simp only [List.getElem?_cons_zero, Option.some.injEq] at hb
  subst hb
  simpa [List.take_of_length_le (Nat.le_of_eq hl)] using h
 | succ i => simp at hb
theorem Rows.mono (h : Rows R z c l) (hR : ∀ cs a, R cs a → R' cs a) : Rows R' z c l := ⟨h.1, fun i a ha => hR _ _ (h.2 i a ha)⟩
theorem Rows.append (h : Rows R z c l) (h2 : Rows R z c2 l2) : Rows R z (c ++ c2) (l ++ l2) := by
 refine ⟨by rw [List.length_append, List.length_append, h.1, h2.1, Nat.add_mul], fun i a ha => ?_⟩
 by_cases hi : i < l.length
 ·rw [List.getElem?_append_left hi] at ha
  have := h.2 i a ha
  have hle : (i + 1) * z ≤ l.length * z := Nat.mul_le_mul_right z hi
  rw [Nat.succ_mul] at hle
  rw [List.drop_append_of_le_length (by rw [h.1]; omega), List.take_append_of_le_length (by rw [List.length_drop, h.1]; omega)]
  exact this
 ·rw [List.getElem?_append_right (by omega)] at ha
  have := h2.2 _ a ha
  have e : i * z = c.length + (i - l.length) * z := by rw [h.1, ← Nat.add_mul]; congr 1; omega
  rw [e, ← List.drop_drop, List.drop_left]
  exact this
theorem Rows.set {i : Nat} (h : Rows R z c l) (hi : i < l.length) (hl : cs.length = z) (hr : R cs a) : Rows R z (c.take (i * z) ++ (cs ++ c.drop (i * z + z))) (l.set i a) := by
 have hle : (i + 1) * z ≤ l.length * z := Nat.mul_le_mul_right z hi
 rw [Nat.succ_mul] at hle
 have hc := h.1
 refine ⟨by simp only [List.length_append, List.length_take, List.length_drop, List.length_set, hl, hc]; omega, fun j b hb => ?_⟩
 have hjl : j < l.length := by have := (List.getElem?_eq_some_iff.1 hb).1; rwa [List.length_set] at this
 have hj2 : (j + 1) * z ≤ l.length * z := Nat.mul_le_mul_right z hjl
 rw [Nat.succ_mul] at hj2
 by_cases hij : i = j
 ·subst hij
  rw [List.getElem?_set_self hi] at hb
  simp only [Option.some.injEq] at hb
  subst hb
  have e1 : (c.take (i * z)).length = i * z := by rw [List.length_take]; omega
  rw [List.drop_append_of_le_length (by omega), List.drop_of_length_le (by omega), List.nil_append, List.take_append_of_le_length (by omega), List.take_of_length_le (by omega)]
  exact hr
 ·rw [List.getElem?_set_ne hij] at hb
  have := h.2 j b hb
  rcases Nat.lt_or_gt_of_ne hij with hlt | hlt
  ·have h3 : (i + 1) * z ≤ j * z := Nat.mul_le_mul_right z hlt
   rw [Nat.succ_mul] at h3
   have e1 : (c.take (i * z)).length = i * z := by rw [List.length_take]; omega
   rw [List.drop_append, List.drop_of_length_le (by omega), List.nil_append, e1, List.drop_append, List.drop_of_length_le (by omega), List.nil_append, hl, List.drop_drop]
   rw [show i * z + z + (j * z - i * z - z) = j * z by omega]
   exact this
  ·have h3 : (j + 1) * z ≤ i * z := Nat.mul_le_mul_right z hlt
   rw [Nat.succ_mul] at h3
   have e1 : (c.take (i * z)).length = i * z := by rw [List.length_take]; omega
   rw [List.drop_append_of_le_length (by omega), List.take_append_of_le_length (by rw [List.length_drop]; omega), List.drop_take, List.take_take, Nat.min_eq_left (by omega)]
   exact this
theorem Rows.at {i : Nat} (h : Rows R z c l) (hi : l[i]? = some a) : ∃ cs, (c.drop (i * z)).take z = cs ∧ cs.length = z ∧ R cs a := by
 refine ⟨_, rfl, ?_, h.2 i a hi⟩
 have hlt := (List.getElem?_eq_some_iff.1 hi).1
 have hle : (i + 1) * z ≤ l.length * z := Nat.mul_le_mul_right z hlt
 rw [Nat.succ_mul] at hle
 rw [List.length_take, List.length_drop, h.1]
 omega
theorem Rows.len (h : Rows R z c l) : c.length = l.length * z := h.1
theorem Rows.cons (hl : cs.length = z) (h : R cs a) (h2 : Rows R z c2 l2) : Rows R z (cs ++ c2) (a :: l2) := (Rows.one hl h).append h2
theorem Rows.tail (h : Rows R z c (a :: l)) : R (c.take z) a ∧ Rows R z (c.drop z) l := by
 refine ⟨by simpa using h.2 0 a rfl, ?_, fun i b hb => ?_⟩
 ·rw [List.length_drop, h.1, List.length_cons, Nat.succ_mul]; omega
 ·have := h.2 (i + 1) b (by simpa using hb)
  rw [Nat.succ_mul] at this
  rw [List.drop_drop, show z + i * z = i * z + z by omega]
  exact this
theorem zm4 : ∀ {p q : List SV}, ones p = true → ones q = true → ones (p ++ q) = true
 | [], _, _, h => h
 | s :: p, q, h, h' => by
  have h0 : Bool.rec (motive := fun _ => Bool) false (ones p) (one s) = true := h
  cases hs : one s with
  | false => rw [hs] at h0; simp at h0
  | true => rw [hs] at h0; exact ones_cons hs (zm4 h0 h')
theorem Rows.ones (h1 : ∀ cs a, R cs a → Go.Ev.ones cs = true) : ∀ {l : List α} {c : List SV}, Rows R z c l → Go.Ev.ones c = true
 | [], c, h => by
  have : c = [] := List.eq_nil_of_length_eq_zero (by rw [h.1]; simp)
  rw [this]; rfl
 | a :: l, c, h => by
  obtain ⟨g1, g2⟩ := h.tail
  rw [← List.take_append_drop z c]
  exact zm4 (h1 _ _ g1) (Rows.ones h1 g2)
end
section
variable {α : Type} {F : Rd} {H : List Ent} {M : Mem} {e : Env} {t u : TypeId} {p q : Operand} {f : Rd} {s sv : SV} {l l' : List α} {z i : Nat} {R : List SV → α → Prop} {tt : TypeId} {c : List SV} {kk : IntKind} {a : Int} {el : α}
theorem Has.atR {j : Nat} {b : Pos} {n : Nat} {cs : List SV} (hH : Has F M H) (hi : H[i]? = some (.vec tt z n sv c)) (hb : blk sv = [b]) (hcs : (c.drop (j * z)).take z = cs) (hl : cs.length = z) : zar (z9k M) (.ptr b (0 + j * z)) cs := by
 rcases hH.get hi with ⟨rfl, _⟩ | ⟨d, hsv, _, ho⟩
 ·simp [blk] at hb
 ·have hbb : d = b := by rcases hsv with rfl | rfl <;> (simp only [blk, List.cons.injEq, and_true] at hb; exact hb)
  subst hbb
  subst hcs
  refine ⟨d, 0 + j * z, c, rfl, ho.row, ?_, ?_⟩
  ·rw [hl]
   rw [List.length_take, List.length_drop] at hl
   rcases Nat.eq_zero_or_pos z with rfl | hz
   ·simp
   ·omega
  ·rw [hl, Nat.zero_add]
end
section
variable {fx : Fx} {n : Nat} {Q : SV → Mem → Prop} {e : Env} {k : List SItem} {M : Mem} {F : Rd} {H : List Ent}
end
abbrev eqI (a b : Int) : Bool := a == b
theorem keyEq_int {t : TypeId} {k : IntKind} {a b : Int} (h : keyK P t = some .int) : keyEq P t (.int k a) (.int k b) = some (eqI a b) := by
 unfold keyEq
 rw [h]
 have : za8 k k = true := by simp [za8]
 simp only [this, zay]
theorem keyEq_ask {t : TypeId} {a b : SV} {r : Bool} (h : keyK P t = some .ask) (h' : eqA P 12 t a b = some r) : keyEq P t a b = some r := by
 unfold keyEq
 rw [h]
 exact h'
section
variable {K V : Type} {ke : K → SV} {ve : V → SV} {eq : K → K → Bool}
def mapES (ke : K → SV) (ve : V → SV) : Nat → List (K × V) → List (SV × SV × Nat)
 | _, [] => []
 | i, x :: l => (ke x.1, ve x.2, i) :: mapES ke ve (i + 1) l
def mfind (eq : K → K → Bool) (k : K) : List (K × V) → Nat → Option (Nat × V)
 | [], _ => none
 | x :: l, i => bif eq k x.1 then some (i, x.2) else mfind eq k l (i + 1)
def mget (eq : K → K → Bool) (z : V) (l : List (K × V)) (k : K) : V := match mfind eq k l 0 with
 | some x => x.2
 | none => z
def mhas (eq : K → K → Bool) (l : List (K × V)) (k : K) : Bool := (mfind eq k l 0).isSome
def mput (eq : K → K → Bool) (l : List (K × V)) (k : K) (v : V) : List (K × V) := match mfind eq k l 0 with
 | some x => l.set x.1 (k, v)
 | none => l ++ [(k, v)]
theorem zfm {kt : TypeId} {k : K} (hq : ∀ a b, keyEq P kt (ke a) (ke b) = some (eq a b)) (hE : ∀ a b, eq a b = true → a = b) : ∀ (l : List (K × V)) (i j : Nat), zd1 P kt (ke k) (mapES ke ve j l) i = some ((mfind eq k l i).map fun x => (x.1, ke k, ve x.2))
 | [], i, j => rfl
 | x :: l, i, j => by
  simp only [mapES, zd1, hq, mfind]
  cases hk : eq k x.1 with
  | true => rw [← hE _ _ hk]; rfl
  | false => exact zfm hq hE l (i + 1) (j + 1)
theorem zp1 (l : List (K × V)) (k : K) (v : V) : ∀ j, mapES ke ve j l ++ [(ke k, ve v, j + l.length)] = mapES ke ve j (l ++ [(k, v)]) := by
 induction l with
 | nil => intro j; rfl
 | cons x l ih =>
  intro j
  simp only [mapES, List.cons_append, List.length_cons]
  rw [← ih (j + 1), show j + (l.length + 1) = j + 1 + l.length by omega]
theorem zm2 (k : K) : ∀ (l : List (K × V)) (i : Nat) {x : Nat × V}, mfind eq k l i = some x → ∃ n a, x.1 = i + n ∧ n < l.length ∧ l[n]? = some (a, x.2) ∧ eq k a = true
 | [], _, _, h => by simp [mfind] at h
 | y :: l, i, x, h => by
  unfold mfind at h
  cases hk : eq k y.1 with
  | true =>
   rw [hk] at h
   simp only [cond_true, Option.some.injEq] at h
   subst h
   exact ⟨0, y.1, rfl, by simp, rfl, hk⟩
  | false =>
   rw [hk] at h
   obtain ⟨n, a, h1, h2, h3, h4⟩ := zm2 k l (i + 1) (show mfind eq k l (i + 1) = some x from h)
   exact ⟨n + 1, a, by omega, by simp; omega, by simpa using h3, h4⟩
theorem zmf (k : K) (v : V) : ∀ (l : List (K × V)) (n j : Nat) (a : K) (u : V), l[n]? = some (a, u) → a = k → zsj (ve v) n (mapES ke ve j l) = mapES ke ve j (l.set n (k, v))
 | [], n, j, a, u, h, _ => by simp at h
 | x :: l, 0, j, a, u, h, hk => by
  simp only [List.getElem?_cons_zero, Option.some.injEq] at h
  subst h hk
  rfl
 | x :: l, n + 1, j, a, u, h, hk => by
  simp only [mapES, zsj, List.set_cons_succ]
  rw [zmf k v l n (j + 1) a u (by simpa using h) hk]
variable {F : Rd} {H : List Ent} {M : Mem} {e : Env} {t : TypeId} {p q r : Operand} {i : Nat} {b : Pos} {l : List (K × V)} {kt et : TypeId} {k : K} {v : V}
theorem ExG.makeMap (ke : K → SV) (ve : V → SV) (hH : Has F M H) : ExG P M e (.makeMap t none) fun s M' => ∃ b, s = .map b ∧ Has F M' (.obj b (.map (mapES ke ve 0 ([] : List (K × V))) 0) :: H) := by
 intro hw
 refine ⟨.map M.next, ⟨M.t.put (some (.map [] 0)) M.next, M.next.succ, M.floor⟩, ?_, hw.anew _, M.next, rfl, hH.newObj hw rfl⟩
 show ze1 M = _
 unfold ze1
 rw [z9n]
theorem zp2 (hH : Has F M H) {es : List (SV × SV × Nat)} {c : Nat} (hi : H[i]? = some (.obj b (.map es c))) : zh3 M b = some (es, c) ∧ zfz M b = some (es, c) := by
 obtain ⟨ho, _⟩ := hH.get hi
 have h1 : zh3 M b = some (es, c) := by unfold zh3; rw [ho.get]
 refine ⟨h1, ?_⟩
 unfold zfz
 have ha : above M b = true := Nat.ble_eq_true_of_le ho.low
 rw [ha]
 exact h1
theorem ex_lookup {z : V} {ok : Bool} (h : ar e p = some (.map b)) (h' : ar e q = some (ke k)) (hH : Has F M H) (hi : H[i]? = some (.obj b (.map (mapES ke ve 0 l) l.length))) (ht : mapT P t = some (kt, et)) (hok : keyOK P 8 kt (ke k) = true) (hq : ∀ a b, keyEq P kt (ke a) (ke b) = some (eq a b)) (hE : ∀ a b, eq a b = true → a = b) (hz : zeroS P et = some (ve z)) :
  execO P M (treeOf e) (.lookup t p q ok) = .val (match ok with | true => .tuple [ve (mget eq z l k), .bool (mhas eq l k)] | false => ve (mget eq z l k)) M := by
 have hx : execO P M (treeOf e) (.lookup t p q ok) = zbv P t (.map b) (ke k) ok M := by
  show z87 (arg M (treeOf e) p) (fun x => z87 (arg M (treeOf e) q) fun k => zbv P t x k ok M) = _
  rw [z8j h, z8j h']
  rfl
 rw [hx]
 unfold zbv
 simp only [ht, hok, (zp2 hH hi).1, zfm hq hE]
 unfold mget mhas
 cases hf : mfind eq k l 0 with
 | none => simp only [Option.map_none, hz]; cases ok <;> rfl
 | some x => cases ok <;> rfl
theorem ExG.mapUpdate (h : ar e p = some (.map b)) (h' : ar e q = some (ke k)) (h'' : ar e r = some (ve v)) (hH : Has F M H) (hi : H[i]? = some (.obj b (.map (mapES ke ve 0 l) l.length))) (ht : mapT P t = some (kt, et)) (hok : keyOK P 8 kt (ke k) = true) (hq : ∀ a b, keyEq P kt (ke a) (ke b) = some (eq a b)) (hE : ∀ a b, eq a b = true → a = b) (hp : zdm (ke k) = true) (hs : zh4 (ke k) = true) :
  ExG P M e (.mapUpdate t p q r) fun s M' => s = .tuple [] ∧ Has F M' (H.set i (.obj b (.map (mapES ke ve 0 (mput eq l k v)) (mput eq l k v).length))) := by
 intro hw
 have ho := (hH.get hi).1
 have hx : execO P M (treeOf e) (.mapUpdate t p q r) = z9g P t (.map b) (ke k) (ve v) M := by
  show z87 (arg M (treeOf e) p) (fun x => z87 (arg M (treeOf e) q) fun k => z87 (arg M (treeOf e) r) fun v => z9g P t x k v M) = _
  rw [z8j h, z8j h', z8j h'']
  rfl
 have hout : z9g P t (.map b) (ke k) (ve v) M = .val (.tuple []) (putObj M b (.map (mapES ke ve 0 (mput eq l k v)) (mput eq l k v).length)) := by
  unfold z9g
  simp only [ht, hok, (zp2 hH hi).2, zfm hq hE]
  unfold mput
  cases hf : mfind eq k l 0 with
  | none =>
   have := zp1 (ke := ke) (ve := ve) l k v 0
   rw [Nat.zero_add] at this
   simp only [Option.map_none, this, List.length_append, List.length_cons, List.length_nil]
  | some x =>
   obtain ⟨n, a, h1, h2, h3, h4⟩ := zm2 k l 0 hf
   have h5 := zmf (ke := ke) (ve := ve) k v l n 0 a x.2 h3 (hE _ _ h4).symm
   rw [Nat.zero_add] at h1
   simp only [Option.map_some, ze3 hs, hp, h1, h5, List.length_set]
 refine ⟨_, _, hx.trans hout, ?_, rfl, ?_⟩
 ·rw [zgc]; exact hw.put ho.low ho.lt
 ·rw [zgc]; exact hH.putObj hi rfl
end
end Go.Ev
namespace Go.Ev
open Go.RowKit
section
variable {P : Program} {F : Rd} {M : Mem} {H : List Ent} {e : Env} {p q : Operand} {t tt : TypeId} {rk : RK} {α : Type} {enc : α → List SV} {i j n off : Nat} {bb : Pos} {l l' : List α} {a : α}
end
def add64 (x y c : Int) : Option (Int × Int) := match x, y, c with
 | .ofNat x, .ofNat y, .ofNat c => bif Nat.ble c 1 then some (((x + y + c) % 18446744073709551616 : Nat), ((x + y + c) / 18446744073709551616 : Nat)) else none
 | _, _, _ => none
def sub64 (x y c : Int) : Option (Int × Int) := match x, y, c with
 | .ofNat x, .ofNat y, .ofNat c => bif Nat.ble c 1 then some (((x + 18446744073709551616 - y - c) % 18446744073709551616 : Nat), bif Nat.ble (x + 1) (y + c) then 1 else 0) else none
 | _, _, _ => none
section
variable {P : Program} {M : Mem} {e : Env} {f : FuncId} {xs : Array Operand} {ts : Array TypeId}
end
end Go.Ev
