/- A part of the small machine. -/
import Derived.Test.YtdcgepenffjdcaaGreatDoorEvL6
/- What is owned is only read from now on; a field of an element is stored. -/
namespace Go.Ev
open Go.RowKit
variable {P : Program}

/-- A row that the run owns, as one that is only read. -/
theorem MRel.froze {B : Nat} {m : Map} {M : Mem} {w : World} (hr : MRel B m M w) {b : Pos} {tt : TypeId} {rk : RK} {c : List SV} (hb : M.t.get b = some (.row tt rk c)) : MRel B m ⟨M.t.put (some (.ro c)) b, M.next, M.floor⟩ w := by
  have hg : ∀ b' o, (M.t.put (some (SObj.ro c)) b).get b' = some o → b' = b ∧ o = .ro c ∨ b' ≠ b ∧ M.t.get b' = some o := by
    intro b' o h
    by_cases he : b = b'
    · subst he
      rw [Tree.get_put_same] at h
      exact .inl ⟨rfl, (Option.some.inj h).symm⟩
    · rw [Tree.get_put_other _ _ he] at h
      exact .inr ⟨fun e => he e.symm, h⟩
  refine ⟨fun b' o p h hp => ?_, fun b1 b2 o1 o2 p1 p2 h1 h2 how hp1 hp2 he => ?_, fun b' h => ⟨(hr.fresh b' h).1, ?_⟩, hr.bound, fun b' o p h ho hp => ?_, hr.base, fun b' c' h => ?_, hr.flo⟩
  · rcases hg b' o h with ⟨rfl, rfl⟩ | ⟨_, h⟩
    · obtain ⟨e, fz, pre, vs, post, h1, _, h2, h3, h4, _⟩ := hr.objs b' _ p hb hp
      exact ⟨e, fz, pre, vs, post, h1, trivial, h2, h3, h4, fun t ht => by simp at ht⟩
    · exact hr.objs b' o p h hp
  · rcases hg b1 o1 h1 with ⟨e1, f1⟩ | ⟨_, g1⟩ <;> rcases hg b2 o2 h2 with ⟨e2, f2⟩ | ⟨_, g2⟩
    · exact e1.trans e2.symm
    · exact hr.inj b1 b2 _ o2 p1 p2 (e1 ▸ hb) g2 (.inl rfl) hp1 hp2 he
    · exact hr.inj b1 b2 o1 _ p1 p2 g1 (e2 ▸ hb) (.inr rfl) hp1 hp2 he
    · exact hr.inj b1 b2 o1 o2 p1 p2 g1 g2 how hp1 hp2 he
  · show Tree.get b' (M.t.put _ _) = none
    rw [Tree.get_put_other _ _ (fun e => by subst e; have := (hr.fresh b h).2; rw [hb] at this; simp at this)]
    exact (hr.fresh b' h).2
  · rcases hg b' o h with ⟨rfl, rfl⟩ | ⟨_, h⟩
    · simp [SObj.own] at ho
    · exact hr.low b' o p h ho hp
  · rcases hg b' _ h with ⟨_, h⟩ | ⟨_, h⟩
    · cases h
    · exact hr.glob b' c' h
theorem Stepped.froze {B : Nat} {m : Map} {M : Mem} {w : World} (hr : MRel B m M w) {b : Pos} {tt : TypeId} {rk : RK} {c : List SV} (hb : Own M b (.row tt rk c)) (hpl : m b ≠ none) : Stepped B m M w m ⟨M.t.put (some (.ro c)) b, M.next, M.floor⟩ w := by
  refine ⟨hr.froze hb.get, fun _ _ => rfl, fun b' hl hm => ?_, Nat.le_refl _, Below.refl _ _, fun _ _ _ => rfl, fun k hk ho => ?_, fun b' hl => ?_, rfl, fun b' c' h => ?_, fun b' p hb' hp _ => absurd hp (by rw [(hr.fresh b' hb').1]; simp)⟩
  · by_cases he : b = b'
    · subst he
      exact absurd hm hpl
    · show Tree.get b' (M.t.put _ _) = _
      rw [Tree.get_put_other _ _ he]
  · obtain ⟨d, x, q, hx, hxo, hq, he⟩ := ho
    by_cases hd : b = d
    · subst hd
      rw [Tree.get_put_same] at hx
      simp only [Option.some.injEq] at hx
      subst hx
      simp [SObj.own] at hxo
    · rw [Tree.get_put_other _ _ hd] at hx
      exact ⟨d, x, q, hx, hxo, hq, he⟩
  · show Tree.get b' (M.t.put _ _) = _
    rw [Tree.get_put_other _ _ (fun e => by subst e; have := hb.low; omega)]
  · by_cases he : b = b'
    · subst he
      rw [Tree.get_put_same] at h
      simp at h
    · rw [Tree.get_put_other _ _ he] at h
      exact h

section
variable {fx : Fx} {n : Nat} {Q : SV → Mem → Prop} {e : Env} {k : List SItem} {M : Mem} {F : Rd} {H : List Ent} {x y : Ent}
/-- A slice that the run owns, and that a temporary holds, is only read from now on. -/
theorem Run.freeze {α : Type} {enc : α → List SV} {i t z : Nat} {sv : SV} {l : List α} {tt : TypeId} (ht : lk t e = some sv) (hH : Has F M H) (hi : H[i]? = some (.vec tt z l.length sv (l.flatMap enc))) (hlen : ∀ a, (enc a).length = z)
    (next : ∀ F' M', RdLe F F' → Has F' M' (H.set i (.vec 0 0 0 .nils [])) → Slc F' z (FlatR enc) sv l → Run P fx n Q e k M') : Run P fx n Q e k M := by
  rcases hH.get hi with ⟨rfl, h0, hc0⟩ | ⟨b, hsv, hc, ho⟩
  · have hl : l = [] := List.length_eq_zero_iff.1 h0
    subst hl
    refine next F M (fun _ _ h => h) ?_ (.inl ⟨rfl, rfl⟩)
    exact hH.upd hi (.refl M) (fun _ _ _ h => h) (.inl ⟨rfl, rfl, rfl⟩) (fun b hb => by simp [Ent.fp, blk] at hb)
  · have hnx := hH.upd (y := .vec 0 0 0 .nils []) (M' := ⟨M.t.put (some (.ro (l.flatMap enc))) b, M.next, M.floor⟩) hi (put_ro ho rfl) (fun c o hcn hco => put_keep c o (by rcases hsv with rfl | rfl <;> exact hcn) hco) (.inl ⟨rfl, rfl, rfl⟩) (fun b hb => by simp [Ent.fp, blk] at hb)
    have hro : ro ⟨M.t.put (some (.ro (l.flatMap enc))) b, M.next, M.floor⟩ b = some (l.flatMap enc) := ro_mk ho.lt (.inl (Tree.get_put_same _ _ _))
    have hslc : Slc (ro ⟨M.t.put (some (.ro (l.flatMap enc))) b, M.next, M.floor⟩) z (FlatR enc) sv l := by
      refine .inr ⟨b, 0, _, ?_, hro, by rw [hc]; omega, fun i a ha => by rw [Nat.zero_add]; exact flat_at hlen l i a ha⟩
      rcases hsv with h | h
      · exact .inl ⟨_, Nat.le_refl _, h⟩
      · exact .inr h
    have hrun := next _ _ hnx.base (hnx.upF fun _ _ h => h) hslc
    intro hw
    have ha : Aft M ⟨M.t.put (some (.ro (l.flatMap enc))) b, M.next, M.floor⟩ := hw.put ho.lt
    obtain ⟨s, M', hq, ha2, hto⟩ := hrun ha.wf
    refine ⟨s, M', hq, ha.trans ha2, ?_⟩
    intro hmix B m w fr frs cs0 hr hf hcs
    have hpl : m b ≠ none := by
      intro hm
      obtain ⟨c, tm, todo, rfl, hcx, htr, hn, hk⟩ := hf
      obtain ⟨v, _, hv⟩ := htr t sv (by rw [treeOf_get]; exact ht)
      rcases hsv with rfl | rfl <;> simp [conc, hm] at hv
    have hst := Stepped.froze hr ho hpl
    obtain ⟨fr', w', m', x, g1, g2, g3, g4, g5⟩ := hto hmix B m w fr frs cs0 hst.rel hf hcs
    exact ⟨fr', w', m', x, g1, hst.trans g2, g3, g4, g5⟩
/-- A store into a part of an element. -/
theorem ExG.storeFld {α : Type} {enc : α → List SV} {i j o zz z : Nat} {bb : Pos} {s sv : SV} {v v' : α} {l l' : List α} {tt t : TypeId} {p q : Operand} (h : ar e p = some (.ptr bb (0 + j * z + o))) (h' : ar e q = some s) (hH : Has F M H) (hi : H[i]? = some (.vec tt z l.length sv (l.flatMap enc))) (hb : blk sv = [bb]) (hv : l[j]? = some v) (hu : upd l j v' = some l') (hz : szOf P t = some zz)
    (hs : enc v' = (enc v).take o ++ (cellsOf s ++ (enc v).drop (o + zz))) (hl : (cellsOf s).length = zz) (ho1 : ones (cellsOf s) = true) (hoz : Nat.ble (o + zz) z = true) (hlen : ∀ a, (enc a).length = z) :
    ExG P M e (.store t p q) fun s M' => s = .tuple [] ∧ Has F M' (H.set i (.vec tt z l'.length sv (l'.flatMap enc))) := by
  intro hw
  obtain ⟨j', hj, hlt, rfl⟩ := upd_some hu
  have hj' : j' = j := by omega
  subst hj'
  have hoz' := Nat.le_of_ble_eq_true hoz
  rcases hH.get hi with ⟨rfl, _⟩ | ⟨b, hsv, hc, ho⟩
  · simp [blk] at hb
  · have hbb : b = bb := by rcases hsv with rfl | rfl <;> (simp only [blk, List.cons.injEq, and_true] at hb; exact hb)
    subst hbb
    have hle : (j' + 1) * z ≤ l.length * z := Nat.mul_le_mul_right z hlt
    rw [Nat.succ_mul] at hle
    have hel := flat_at hlen l j' v hv
    have hcut : (l.set j' v').flatMap enc = (l.flatMap enc).take (0 + j' * z + o) ++ (cellsOf s ++ (l.flatMap enc).drop (0 + j' * z + o + zz)) := by
      rw [flat_set hlen l j' v' hlt, hs, Nat.zero_add, ← hel]
      generalize hX : l.flatMap enc = X at hc
      have hXl : j' * z + z ≤ X.length := by omega
      rw [List.take_take, Nat.min_eq_left (by omega), List.drop_take, List.drop_drop, List.take_add (i := j' * z) (j := o)]
      simp only [List.append_assoc]
      congr 2
      congr 1
      rw [show j' * z + (o + zz) = j' * z + o + zz by omega]
      have : X.drop (j' * z + o + zz) = (X.drop (j' * z + o + zz)).take (z - (o + zz)) ++ (X.drop (j' * z + o + zz)).drop (z - (o + zz)) := (List.take_append_drop _ _).symm
      rw [List.drop_drop, show j' * z + o + zz + (z - (o + zz)) = j' * z + z by omega] at this
      exact this.symm
    have hput := putCells_row (l := cellsOf s) (off := 0 + j' * z + o) (zz := zz) (c' := (l.set j' v').flatMap enc) ho hl rfl (by rw [hc]; omega) ho1 hcut
    refine ⟨_, _, store_put h h' hz hl hput, hw.put ho.lt, rfl, hH.upd hi (put_ro ho rfl) ?_ (.inr ⟨b, by simpa using hsv, by rw [flatm_len hlen], ⟨Tree.get_put_same _ _ _, ho.low, ho.lt⟩⟩) fun c hc => .inl hc⟩
    intro c o hc
    refine put_keep c o ?_
    show c ∉ [b]
    rw [← hb]; exact hc
end
end Go.Ev
namespace Go.Ev
open Go.RowKit
variable {P : Program}
section
variable {fx : Fx} {n : Nat} {Q : SV → Mem → Prop} {e : Env} {k : List SItem} {M : Mem} {all : Array Oper} {F : Rd} {H : List Ent}
theorem Has.le (hH : Has F M H) : RdLe F (rd M) := fun b c hb => ro_rd (hH.base b c hb)
theorem rdLe_roF (hH : Has F M H) : RdLe F (rowOf M) := fun b c hb => ro_row (hH.base b c hb)
/-- A call that gives a value without places. -/
theorem Run.callP {r : List Oper} {d : Option Tmp} {op : Op} {ty : TypeId} {pos : String} {af : Array Edge} {gd : Option (Nat × Bool)} {g : FuncId} {xs : List SV} {s0 : SV}
    (hw : wantS all (treeOf e) ⟨d, op, ty, pos, af, gd⟩ = some true) (hx : execO P M (treeOf e) op = .enter g xs M) (hd : okD d n = true) (hc : CallsM P g xs M fun s M' => s = s0 ∧ M' = M)
    (next : Run P fx n Q (putE d s0 e) (.ops all r :: k) M) : Run P fx n Q e (.ops all (⟨d, op, ty, pos, af, gd⟩ :: r) :: k) M :=
  Run.callX hw hx hd hc fun s M' h => by obtain ⟨rfl, rfl⟩ := h; exact next
theorem DrawG.callP {i : Nat} {op : Op} {ty : TypeId} {pos : String} {af : Array Edge} {g : Option (Nat × Bool)} {d : Option Tmp} {L : List Nat} {r : List PE} {f : FuncId} {xs : List SV} {s0 : SV} (ho : all[i]? = some ⟨d, op, ty, pos, af, g⟩) (hw : wantS all (treeOf e) ⟨d, op, ty, pos, af, g⟩ = some true) (hx : execO P M (treeOf e) op = .enter f xs M) (hd : okD d n = true) (hc : CallsM P f xs M fun s M' => s = s0 ∧ M' = M)
    (hs : allStill P all M (treeOf (putE d s0 e)) L = true) (h : DrawG P fx n Q all k r (putE d s0 e) M) : DrawG P fx n Q all k (.an i L :: r) e M :=
  DrawG.call ho hw hx hd hc fun v M' hv => by obtain ⟨rfl, rfl⟩ := hv; exact ⟨hs, h⟩
theorem none_le (F : Rd) : RdLe (fun _ => none) F := fun _ _ h => by cases h
end
end Go.Ev
namespace Go.Ev
open Go.RowKit
variable {P : Program}
/-- A value of one cell. -/
theorem cells_one {s : SV} (h : one s = true) : cellsOf s = [s] := by cases s <;> first | rfl | simp [one] at h
theorem ones_nil : ones [] = true := rfl
theorem ones_cons {s : SV} {l : List SV} (h : one s = true) (h' : ones l = true) : ones (s :: l) = true := by
  show Bool.rec (motive := fun _ => Bool) false (ones l) (one s) = true
  rw [h]; exact h'
theorem slc_one {α : Type} {f : Rd} {z : Nat} {R : List SV → α → Prop} {s : SV} {l : List α} (h : Slc f z R s l) : one s = true := by
  rcases h with ⟨rfl, _⟩ | ⟨b, off, c, ⟨cap, _, rfl⟩ | rfl, _⟩ <;> rfl
section
variable {fx : Fx} {n : Nat} {Q : SV → Mem → Prop} {e : Env} {k : List SItem} {M : Mem} {all : Array Oper} {F : Rd} {H : List Ent} {t : TypeId} {p q : Operand}
theorem vec_one (hH : Has F M H) {i tt z n : Nat} {sv : SV} {c : List SV} (hi : H[i]? = some (.vec tt z n sv c)) : one sv = true := by
  rcases hH.get hi with ⟨rfl, _⟩ | ⟨b, rfl | rfl, _⟩ <;> rfl
theorem ExG.box {s : SV} {c : List SV} (h : ar e p = some s) (hc : cellsOf s = c) (hH : Has F M H) : ExG P M e (.box t p) fun v M' => ∃ b, v = .ptr b 0 ∧ Has F M' (.obj b (.row t .whole c) :: H) := by
  subst hc
  exact ExG.new (v := fun b => .ptr b 0) (ex_box h) hH
theorem ex_boxC {s : SV} {c : List SV} (h : ar e p = some s) (hc : cellsOf s = c) : execO P M (treeOf e) (.box t p) = .val (.ptr (nextOf M) 0) (newRowS t .whole M c) := by
  subst hc
  exact ex_box h
theorem ExG.storeC {i : Nat} {bb : Pos} {off zz : Nat} {s : SV} {tt : TypeId} {rk : RK} {c c' cs : List SV} (h : ar e p = some (.ptr bb off)) (h' : ar e q = some s) (hcs : cellsOf s = cs) (hH : Has F M H) (hi : H[i]? = some (.obj bb (.row tt rk c))) (hz : szOf P t = some zz) (hl : cs.length = zz) (hk : frzOK rk off = true) (hle : Nat.ble (off + zz) c.length = true) (h1 : ones cs = true) (hc : c.take off ++ (cs ++ c.drop (off + zz)) = c') :
    ExG P M e (.store t p q) fun s M' => s = .tuple [] ∧ Has F M' (H.set i (.obj bb (.row tt rk c'))) := by
  subst hcs
  exact ExG.store h h' hH hi hz hl hk hle h1 hc
end
end Go.Ev
namespace Go.Ev
open Go.RowKit
variable {P : Program}
/-- A slice whose room is known to end. -/
def clo : SV → Bool
  | .ope _ _ _ _ => false
  | _ => true
/-- The elements from lo on, before hi; maybe none. -/
def subc {α : Type} (l : List α) (lo hi : Int) : Option (List α) := match lo, hi with
  | .ofNat a, .ofNat b => bif decide (a ≤ b) && decide (b ≤ l.length) then some ((l.take b).drop a) else none
  | _, _ => none
theorem subc_some {α : Type} {l l' : List α} {lo hi : Int} (h : subc l lo hi = some l') : ∃ a b : Nat, lo = a ∧ hi = b ∧ a ≤ b ∧ b ≤ l.length ∧ l' = (l.take b).drop a := by
  unfold subc at h
  split at h
  · rename_i a b
    rcases btf (decide (a ≤ b) && decide (b ≤ l.length)) with hc | hc
    · rw [hc] at h
      simp only [Bool.and_eq_true, decide_eq_true_eq] at hc
      exact ⟨a, b, rfl, rfl, hc.1, hc.2, (Option.some.inj h).symm⟩
    · rw [hc] at h
      exact absurd h (by simp)
  · simp at h
section
variable {α : Type} {f : Rd} {z : Nat} {R : List SV → α → Prop} {s : SV} {l l' : List α} {t : TypeId} {k0 k1 : IntKind} {lo hi : Int}
theorem xSlice_subC (hs : Slc f z R s l) (hcl : clo s = true) {lo hi : Option SV} {p q : Nat} (hpq : p ≤ q) (hq : q ≤ l.length)
    (hlo : lo = none ∧ p = 0 ∨ ∃ k', lo = some (.int k' (p : Int))) (hhi : hi = none ∧ q = l.length ∨ ∃ k', hi = some (.int k' (q : Int))) (hk : slK P t = some (.sl z)) :
    ∃ s', (∀ M, xSlice P t s lo hi none M = .val s' M) ∧ Slc f z R s' ((l.take q).drop p) ∧ clo s' = true := by
  have hbl : ∀ top, q ≤ top → boundS lo 0 q = some p := by
    intro top _
    rcases hlo with ⟨rfl, rfl⟩ | ⟨k', rfl⟩
    · rfl
    · have e1 : intNat (p : Int) = some p := rfl
      simp only [boundS, e1, Nat.ble_eq_true_of_le hpq]
  have hbh : ∀ top, l.length ≤ top → boundS hi l.length top = some q := by
    intro top ht
    rcases hhi with ⟨rfl, rfl⟩ | ⟨k', rfl⟩
    · rfl
    · have e1 : intNat (q : Int) = some q := rfl
      simp only [boundS, e1, Nat.ble_eq_true_of_le (Nat.le_trans hq ht)]
  have hb : ∀ top, l.length ≤ top → bnds lo hi none l.length top = some (p, q, top) := by
    intro top ht
    have e0 : boundS none top top = some top := rfl
    simp only [bnds, e0, hbh top ht, hbl top (by omega), Nat.ble_eq_true_of_le hpq]
  have hlen : ((l.take q).drop p).length = q - p := by simp; omega
  have hget : ∀ (i : Nat) (el : α), ((l.take q).drop p)[i]? = some el → l[p + i]? = some el := by
    intro i el h
    rw [List.getElem?_drop, List.getElem?_take] at h
    split at h
    · exact h
    · simp at h
  rcases hs with ⟨rfl, rfl⟩ | ⟨bb, off, c, hs, h2, h3, h4⟩
  · have hp0 : p = 0 := by simp at hq; omega
    have hq0 : q = 0 := by simp at hq; omega
    subst hp0 hq0
    refine ⟨.nils, fun M => ?_, .inl ⟨rfl, rfl⟩, rfl⟩
    unfold xSlice
    have := hb 0 (Nat.le_refl _)
    have h' : bnds lo hi none 0 0 = some (0, 0, 0) := this
    simp only [hk, h']
  · have hz1 : q * z ≤ l.length * z := Nat.mul_le_mul_right z hq
    have hz2 : p * z + (q - p) * z = q * z := by rw [← Nat.add_mul, Nat.add_sub_cancel' hpq]
    rcases hs with ⟨cap, hcap, rfl⟩ | rfl
    · have g1 : ((l.take q).drop p).length ≤ cap - p := by rw [hlen]; exact Nat.sub_le_sub_right (Nat.le_trans hq hcap) p
      by_cases hcp : cap = p
      · have hqp : q - p = 0 := by omega
        refine ⟨.slice bb off (q - p) (cap - p), fun M => ?_, .inr ⟨bb, off, c, .inl ⟨cap - p, g1, by rw [hlen]⟩, h2, by rw [hlen, hqp]; omega, fun i el h => ?_⟩, rfl⟩
        · unfold xSlice
          have hne : Nat.beq cap p = true := by rw [hcp]; exact Nat.beq_refl p
          simp only [hk, Nat.ble_eq_true_of_le hcap, hb cap hcap, cutAt, hne]
          rfl
        · have := (List.getElem?_eq_some_iff.1 h).1
          omega
      · have g2 : off + p * z + ((l.take q).drop p).length * z ≤ c.length := by rw [hlen, Nat.add_assoc, hz2]; exact Nat.le_trans (Nat.add_le_add_left hz1 off) h3
        refine ⟨.slice bb (off + p * z) (q - p) (cap - p), fun M => ?_, .inr ⟨bb, off + p * z, c, .inl ⟨cap - p, g1, by rw [hlen]⟩, h2, g2, fun i el h => ?_⟩, rfl⟩
        · unfold xSlice
          have hne : Nat.beq cap p = false := by
            cases hh : Nat.beq cap p with
            | false => rfl
            | true => exact absurd (Nat.eq_of_beq_eq_true hh) hcp
          simp only [hk, Nat.ble_eq_true_of_le hcap, hb cap hcap, cutAt, hne]
          rfl
        · have := h4 (p + i) el (hget i el h)
          rwa [Nat.add_mul, ← Nat.add_assoc] at this
    · simp [clo] at hcl
theorem sl_cutH (hs : Slc f z R s l) (hcl : clo s = true) (hl : subc l 0 hi = some l') (hk : slK P t = some (.sl z)) : ∃ s', (∀ M, xSlice P t s none (some (.int k0 hi)) none M = .val s' M) ∧ Slc f z R s' l' ∧ clo s' = true := by
  obtain ⟨p, q, hp, rfl, hpq, hq, rfl⟩ := subc_some hl
  exact xSlice_subC hs hcl hpq hq (.inl ⟨rfl, by omega⟩) (.inr ⟨k0, rfl⟩) hk
theorem sl_cutL (hs : Slc f z R s l) (hcl : clo s = true) (hl : subc l lo l.length = some l') (hk : slK P t = some (.sl z)) : ∃ s', (∀ M, xSlice P t s (some (.int k0 lo)) none none M = .val s' M) ∧ Slc f z R s' l' ∧ clo s' = true := by
  obtain ⟨p, q, rfl, hq', hpq, hq, rfl⟩ := subc_some hl
  exact xSlice_subC hs hcl hpq hq (.inr ⟨k0, rfl⟩) (.inl ⟨rfl, by omega⟩) hk
theorem sl_cutB (hs : Slc f z R s l) (hcl : clo s = true) (hl : subc l lo hi = some l') (hk : slK P t = some (.sl z)) : ∃ s', (∀ M, xSlice P t s (some (.int k0 lo)) (some (.int k1 hi)) none M = .val s' M) ∧ Slc f z R s' l' ∧ clo s' = true := by
  obtain ⟨p, q, rfl, rfl, hpq, hq, rfl⟩ := subc_some hl
  exact xSlice_subC hs hcl hpq hq (.inr ⟨k0, rfl⟩) (.inr ⟨k1, rfl⟩) hk
end
end Go.Ev

/- Calls that read listed tables; where a run with arguments and tables begins. -/
namespace Go.Ev
open Go.RowKit
variable {P : Program}

/-- The tables lie in memory. -/
def FixIn (M : Mem) (l : List (Nat × List SV)) : Prop := ∀ x ∈ l, M.t.get (Pos.ofNat x.1) = some (.fix x.2) ∧ (Pos.ofNat x.1).num < M.next.num
noncomputable def fixE (x : Nat × List SV) : Ent := .fixd (Pos.ofNat x.1) x.2
theorem FixIn.frozen {M : Mem} {l : List (Nat × List SV)} (h : FixIn M l) : FixIn (frozen M) l := fun x hx => by
  obtain ⟨h1, h2⟩ := h x hx
  refine ⟨?_, h2⟩
  rw [frozen_get, h1]
  rfl
theorem Has.ofFix {M : Mem} {l : List (Nat × List SV)} (h : FixIn M l) : Has (ro M) M (l.map fixE) := by
  refine ⟨fun _ _ h => h, fun x hx => ?_, ?_⟩
  · obtain ⟨y, hy, rfl⟩ := List.mem_map.1 hx
    exact h y hy
  · have : (l.map fixE).flatMap Ent.fp = [] := by
      induction l with
      | nil => rfl
      | cons a l ih => rw [List.map_cons, List.flatMap_cons, ih fun x hx => h x (List.mem_cons_of_mem _ hx)]; rfl
    rw [this]
    exact List.nodup_nil
theorem Has.fixIn {F : Rd} {M : Mem} {H : List Ent} {l : List (Nat × List SV)} (hH : Has F M H) (h : ∀ x ∈ l, fixE x ∈ H) : FixIn M l := fun x hx => hH.ok _ (h x hx)
theorem FixIn.rel {n : Nat} {l : List (Nat × List SV)} (hn : (l.all fun x => Nat.blt x.1 n) = true) (hp : (l.all fun x => plain.plains x.2) = true) {B : Nat} {m : Map} {M : Mem} {w : World} (hr : MRel B m M w) (h : FixIn M l) : ∃ m', MRel w.heap.size m' (memFix n l) w := by
  have hn' : ∀ x ∈ l, x.1 < n := by
    intro x hx
    have := List.all_eq_true.1 hn x hx
    exact Nat.le_of_ble_eq_true this
  have hpl : ∀ x ∈ l, plain.plains x.2 = true := fun x hx => List.all_eq_true.1 hp x hx
  refine ⟨fun b => Option.bind ((fixT l).get b) fun _ => m b, ?_⟩
  have hm : ∀ b p, Option.bind ((fixT l).get b) (fun _ => m b) = some p → ∃ x ∈ l, b = Pos.ofNat x.1 ∧ (fixT l).get b = some (.fix x.2) ∧ m b = some p := by
    intro b p hb
    obtain ⟨o, ho, hmb⟩ := Option.bind_eq_some_iff.1 hb
    obtain ⟨x, hx, h1, h2⟩ := fixT_get l b o ho
    subst h2
    exact ⟨x, hx, h1, ho, hmb⟩
  refine ⟨?_, ?_, ?_, ?_, ?_, Nat.le_refl _, ?_, Nat.zero_le _⟩
  · intro b o p ho hb
    obtain ⟨x, hx, rfl, hg, hmb⟩ := hm b p hb
    have ho' : (fixT l).get (Pos.ofNat x.1) = some o := ho
    rw [hg] at ho'
    simp only [Option.some.injEq] at ho'
    subst ho'
    obtain ⟨e, fz, pre, vs, post, g1, g2, g3, g4, g5, g6⟩ := hr.objs _ _ p (h x hx).1 hmb
    exact ⟨e, fz, pre, vs, post, g1, g2, g3, g4, (plains_conc (hpl x hx) _ _).trans g5, g6⟩
  · intro b b' o o' p p' ho ho' how _ _ _
    obtain ⟨x, _, _, rfl⟩ := fixT_get l b o ho
    obtain ⟨x', _, _, rfl⟩ := fixT_get l b' o' ho'
    rcases how with h | h <;> simp [SObj.own] at h
  · intro b hb
    have hnone : (fixT l).get b = none := by
      cases hg : (fixT l).get b with
      | none => rfl
      | some o =>
        obtain ⟨x, hx, rfl, _⟩ := fixT_get l b o hg
        have h1 : (Pos.ofNat n).num ≤ (Pos.ofNat x.1).num := hb
        rw [Pos.num_ofNat, Pos.num_ofNat] at h1
        have := hn' x hx
        omega
    refine ⟨?_, hnone⟩
    show Option.bind ((fixT l).get b) _ = none
    rw [hnone]
    rfl
  · intro b p hb
    obtain ⟨x, _, _, _, hmb⟩ := hm b p hb
    exact hr.bound b p hmb
  · intro b o p ho hown _
    obtain ⟨x, _, _, rfl⟩ := fixT_get l b o ho
    simp [SObj.own] at hown
  · intro b c hc
    have hc' : (fixT l).get b = some (.fix c) := hc
    obtain ⟨x, hx, rfl, h2⟩ := fixT_get l b _ hc'
    obtain ⟨z, hz⟩ := hr.glob _ _ (h x hx).1
    refine ⟨z, ?_⟩
    show Option.bind ((fixT l).get _) _ = _
    rw [hc']
    exact hz
theorem CallsM.closedFix {f : FuncId} {n : Nat} {l : List (Nat × List SV)} (hn : (l.all fun x => Nat.blt x.1 n) = true) (hp : (l.all fun x => plain.plains x.2) = true) (hc : ∀ w m, MRel w.heap.size m (memFix n l) w → Calls P f #[] w fun e w' => e = .returned (.bool true) ∧ Below w.heap.size w w') {M : Mem} (h : FixIn M l) : CallsM P f [] M fun s M' => s = .bool true ∧ M' = M := by
  intro hw
  refine ⟨.bool true, M, ?_, .refl hw, rfl, rfl⟩
  intro _ B m w vs hr has c cs
  have hvs : vs = #[] := by
    have := concs_nil m
    rw [this] at has
    have := Option.some.inj has
    exact (Array.toList_eq_nil_iff.1 this.symm)
  subst hvs
  obtain ⟨m1, hr1⟩ := FixIn.rel hn hp hr h
  obtain ⟨e, w', fr, ⟨rfl, hb⟩, hcome, hfn, hl⟩ := hc w m1 hr1 (c :: cs)
  exact ⟨m, w', .bool true, ⟨hr.kept hb, fun _ _ => rfl, fun _ _ _ => rfl, Nat.le_refl _, hb.mono hr.base, fun k hk _ => hb.block k hk, fun _ _ h => h, fun _ _ => rfl, rfl, fun _ _ h => h, fun b p hbn hp _ => absurd hp (by rw [(hr.fresh b hbn).1]; simp)⟩, rfl, Steps.trans hcome (.one (step_leave_returned hl))⟩

/- WHERE A RUN BEGINS -/
abbrev BRow := Option (Bool × Pl × List SV)
def objB (x : Bool × Pl × List SV) : SObj := bif x.1 then .fix x.2.2 else .ro x.2.2
def mapB (l : List BRow) : Map := fun b => match l[b.num - 1]? with
  | some (some x) => some x.2.1
  | _ => none
noncomputable def treeB : Nat → List BRow → Tree SObj
  | _, [] => .leaf
  | i, none :: l => treeB (i + 1) l
  | i, some x :: l => Tree.put (some (objB x)) (Pos.ofNat i) (treeB (i + 1) l)
theorem treeB_get (b : Pos) : ∀ (l : List BRow) (i : Nat), (treeB i l).get b = if i < b.num then (match l[b.num - (i + 1)]? with
  | some (some x) => some (objB x)
  | _ => none) else none
  | [], i => by rw [treeB, Tree.get_leaf]; simp
  | none :: l, i => by
    rw [treeB, treeB_get b l (i + 1)]
    by_cases h : i < b.num
    · rw [if_pos h]
      by_cases h1 : i + 1 < b.num
      · rw [if_pos h1, show b.num - (i + 1) = (b.num - (i + 1 + 1)) + 1 by omega, List.getElem?_cons_succ]
      · rw [if_neg h1, show b.num - (i + 1) = 0 by omega]; rfl
    · rw [if_neg h, if_neg (by omega)]
  | some x :: l, i => by
    rw [treeB, Tree.get_put, treeB_get b l (i + 1)]
    by_cases e : Pos.ofNat i = b
    · have hn : b.num = i + 1 := by rw [← e, Pos.num_ofNat]
      rw [if_pos e, if_pos (by omega), show b.num - (i + 1) = 0 by omega]; rfl
    · rw [if_neg e]
      by_cases h : i < b.num
      · have hne : b.num ≠ i + 1 := by
          intro hn
          exact e (Pos.num_inj (by rw [Pos.num_ofNat, hn]))
        rw [if_pos h, if_pos (by omega), show b.num - (i + 1) = (b.num - (i + 1 + 1)) + 1 by omega, List.getElem?_cons_succ]
      · rw [if_neg h, if_neg (by omega)]
noncomputable def memB (l : List BRow) : Mem := ⟨treeB 0 l, Pos.ofNat l.length, l.length + 1⟩
theorem memB_get {l : List BRow} {b : Pos} {o : SObj} (h : (memB l).t.get b = some o) : ∃ x, l[b.num - 1]? = some (some x) ∧ o = objB x := by
  have h' : (treeB 0 l).get b = some o := h
  rw [treeB_get, if_pos (by have := b.num_pos; omega), Nat.zero_add] at h'
  split at h'
  · rename_i x hx
    exact ⟨x, hx, (Option.some.inj h').symm⟩
  · simp at h'
theorem mapB_get {l : List BRow} {b : Pos} {p : Pl} (h : mapB l b = some p) : ∃ x, l[b.num - 1]? = some (some x) ∧ p = x.2.1 := by
  unfold mapB at h
  split at h
  · rename_i x hx
    exact ⟨x, hx, (Option.some.inj h).symm⟩
  · simp at h
theorem mapB_at {l : List BRow} {j : Nat} {x : Bool × Pl × List SV} (h : l[j]? = some (some x)) : mapB l (Pos.ofNat j) = some x.2.1 := by
  unfold mapB
  rw [Pos.num_ofNat, Nat.add_sub_cancel, h]
theorem memB_at {l : List BRow} {j : Nat} {x : Bool × Pl × List SV} (h : l[j]? = some (some x)) : (memB l).t.get (Pos.ofNat j) = some (objB x) ∧ (Pos.ofNat j).num < (memB l).next.num := by
  have hj : j < l.length := (List.getElem?_eq_some_iff.1 h).1
  refine ⟨?_, ?_⟩
  · show (treeB 0 l).get (Pos.ofNat j) = _
    rw [treeB_get, Pos.num_ofNat, if_pos (by omega), show j + 1 - (0 + 1) = j by omega, h]
  · show (Pos.ofNat j).num < (Pos.ofNat l.length).num
    rw [Pos.num_ofNat, Pos.num_ofNat]; omega
theorem memB_ro {l : List BRow} {j : Nat} {p : Pl} {c : List SV} (h : l[j]? = some (some (false, p, c))) : ro (memB l) (Pos.ofNat j) = some c := ro_mk (memB_at h).2 (.inl (memB_at h).1)
theorem memB_fix {l : List BRow} {j : Nat} {p : Pl} {c : List SV} (h : l[j]? = some (some (true, p, c))) : (memB l).t.get (Pos.ofNat j) = some (.fix c) ∧ (Pos.ofNat j).num < (memB l).next.num := memB_at h
theorem memB_rel {W : World} {l : List BRow} (h : ∀ (j : Nat) (x : Bool × Pl × List SV), l[j]? = some (some x) → x.2.1.block < W.heap.size ∧ (∀ m, RowRel m x.2.1 none .lost x.2.2 W.heap[x.2.1.block]?) ∧ (x.1 = true → x.2.1.block = j ∧ x.2.1.shift = 0)) : MRel W.heap.size (mapB l) (memB l) W := by
  have hown : ∀ x, (objB x).own = false := fun x => by unfold objB; cases x.1 <;> rfl
  refine ⟨fun b o p hb hp => ?_, fun b b' o o' p p' hb hb' how _ _ _ => ?_, fun b hb => ?_, fun b p hp => ?_, fun b o p hb ho _ => ?_, Nat.le_refl _, fun b c hb => ?_, ?_⟩
  · obtain ⟨x, hx, rfl⟩ := memB_get hb
    obtain ⟨y, hy, rfl⟩ := mapB_get hp
    rw [hx] at hy
    simp only [Option.some.injEq] at hy
    subst hy
    have := (h _ _ hx).2.1 (mapB l)
    unfold objB
    cases x.1 <;> exact this
  · obtain ⟨x, _, rfl⟩ := memB_get hb
    obtain ⟨x', _, rfl⟩ := memB_get hb'
    rcases how with h | h
    · rw [hown] at h; simp at h
    · rw [hown] at h; simp at h
  · have hb' : (Pos.ofNat l.length).num ≤ b.num := hb
    rw [Pos.num_ofNat] at hb'
    constructor
    · cases hm : mapB l b with
      | none => rfl
      | some p =>
        obtain ⟨x, hx, _⟩ := mapB_get hm
        have := (List.getElem?_eq_some_iff.1 hx).1
        omega
    · cases hm : (memB l).t.get b with
      | none => rfl
      | some o =>
        obtain ⟨x, hx, _⟩ := memB_get hm
        have := (List.getElem?_eq_some_iff.1 hx).1
        omega
  · obtain ⟨x, hx, rfl⟩ := mapB_get hp
    exact (h _ _ hx).1
  · obtain ⟨x, _, rfl⟩ := memB_get hb
    rw [hown] at ho; simp at ho
  · obtain ⟨x, hx, hxo⟩ := memB_get hb
    have hx1 : x.1 = true ∧ x.2.2 = c := by
      unfold objB at hxo
      cases h1 : x.1 with
      | false => rw [h1] at hxo; simp at hxo
      | true => rw [h1] at hxo; simp at hxo; exact ⟨rfl, hxo.symm⟩
    obtain ⟨_, _, h3⟩ := h _ _ hx
    obtain ⟨g1, g2⟩ := h3 hx1.1
    refine ⟨x.2.1.size, ?_⟩
    unfold mapB
    rw [hx]
    simp only [Option.some.injEq]
    obtain ⟨xf, ⟨xb, xs, xz⟩, xc⟩ := x
    simp only at g1 g2
    rw [g1, g2]
  · show l.length + 1 ≤ (Pos.ofNat l.length).num
    rw [Pos.num_ofNat]; exact Nat.le_refl _
/-- A listed table's row. -/
theorem fix_row {W : World} {l : List (Nat × List SV)} (h : FixOK W l) {x : Nat × List SV} (hx : x ∈ l) : x.1 < W.heap.size ∧ ∀ m, RowRel m ⟨x.1, 0, x.2.length⟩ none .lost x.2 W.heap[x.1]? := by
  obtain ⟨e, vs, hh, hc⟩ := h x hx
  have hl := concs_length hc
  exact ⟨(Array.getElem?_eq_some_iff.1 hh).1, fun m => ⟨e, (0, 0), [], vs, [], by simp [hh], trivial, rfl, by simp [hl], concs_ext (fun _ _ hb => by simp at hb) _ _ hc, fun t ht => by simp at ht⟩⟩
def argB (r : ARow) : BRow := r.map fun x => (false, x.1, x.2)
end Go.Ev
namespace Go.Ev
theorem argS_clo (r : ARow) (j len cap : Nat) : clo (argS r j len cap) = true := by cases r <;> rfl
end Go.Ev

