/- A part of the small machine. -/
import Derived.Test.YtoobfmfgbcohcaaDoorEvL14
set_option linter.unusedVariables false
namespace Go.Ev
open Go.RowKit
variable {P : Program}
section
variable {B : Nat} {n N : Nat} {all : Array Oper} {Ms : Nat → Mem} {σs : Nat → Tree SV} {ss : Nat → SV} {m0 : Map} {w0 : World}
inductive SeqL (P : Program) (n : Nat) (all : Array Oper) (L : List Nat) : List Oper → Tree SV → Mem → Tree SV → Mem → Prop
  | nil {σ M} : SeqL P n all L [] σ M σ M
  | cons {o r σ M s M1 σ1 σ' M'} : EvalR P all M σ o s M1 → putD σ n o.dst s = some σ1 → allStill P all M1 σ1 L = true → SeqL P n all L r σ1 M1 σ' M' → SeqL P n all L (o :: r) σ M σ' M'
end
section
variable {fx : Fx} {n : Nat} {Q : SV → Mem → Prop} {e : Env} {k : List SItem} {M : Mem} {all : Array Oper} {L : List Nat} {C : Env → Mem → Prop}
def PureK (P : Program) (n : Nat) (all : Array Oper) (C : Env → Mem → Prop) (r : List Oper) (e : Env) (M : Mem) : Prop :=
  WF M → ∃ e' M', PureR P n all r (treeOf e) M (treeOf e') M' ∧ Aft M (unlift M.floor M') ∧ C e' (unlift M.floor M')
theorem PureK.nil (h : C e M) : PureK P n all C [] e M := fun hw => ⟨e, M, .nil, .refl hw, h⟩
def SeqLG (P : Program) (fx : Fx) (n : Nat) (Q : SV → Mem → Prop) (all : Array Oper) (L : List Nat) (k : List SItem) (r : List Oper) (e : Env) (M : Mem) : Prop :=
  WF M → ∃ e' M', SeqL P n all L r (treeOf e) M (treeOf e') M' ∧ Aft M M' ∧ Run P fx n Q e' k M'
theorem SeqLG.nil (h : Run P fx n Q e k M) : SeqLG P fx n Q all L k [] e M := fun hw => ⟨e, M, .nil, .refl hw, h⟩
section
variable {op : Op} {ty : TypeId} {pos : String} {af : Array Edge} {g : Option (Nat × Bool)} {d : Option Tmp} {s : SV} {r : List Oper}
theorem PureK.step {o : Oper} {M1 : Mem} {e1 : Env} {s : SV} (hv : EvalR P all (lift M) (treeOf e) o s M1) (hp : putD (treeOf e) n o.dst s = some (treeOf e1)) (hw : WF M → Aft M (unlift M.floor M1))
    (h : PureK P n all C r e1 (unlift M.floor M1)) : PureK P n all C (o :: r) e M := fun hwf => by
  obtain ⟨e', M', h1, h2, h3⟩ := h (hw hwf).wf
  obtain ⟨M'', h4, h5⟩ := pureR_unlift h1
  refine ⟨e', M'', .cons hv hp h4, ?_, ?_⟩
  · rw [h5]; exact (hw hwf).trans h2
  · rw [h5]; exact h3
theorem PureK.val (hw : wantS all (treeOf e) ⟨d, op, ty, pos, af, g⟩ = some true) (hx : execO P (lift M) (treeOf e) op = .val s (lift M)) (hd : okD d n = true)
    (h : PureK P n all C r (putE d s e) M) : PureK P n all C (⟨d, op, ty, pos, af, g⟩ :: r) e M := by
  refine PureK.step (M1 := lift M) (s := s) ?_ (putE_some hd) (fun hw => .refl hw) h
  have hx' : exec P (lift M) (treeOf e) ⟨d, op, ty, pos, af, g⟩ = .val s (lift M) := hx
  exact .inr ⟨hw, .inl hx'⟩
theorem PureK.no (hw : wantS all (treeOf e) ⟨d, op, ty, pos, af, g⟩ = some false) (hd : okD d n = true)
    (h : PureK P n all C r (putE d (.tuple []) e) M) : PureK P n all C (⟨d, op, ty, pos, af, g⟩ :: r) e M := by
  refine PureK.step (M1 := lift M) (s := .tuple []) ?_ (putE_some hd) (fun hw => .refl hw) h
  exact .inl ⟨hw, rfl, rfl⟩
theorem PureK.new {F : Rd} {H : List Ent} {tt : TypeId} {rk : RK} {v : Pos → SV} {c : List SV} (hw : wantS all (treeOf e) ⟨d, op, ty, pos, af, g⟩ = some true) (hx : execO P (lift M) (treeOf e) op = .val (v (nextOf (lift M))) (newRowS tt rk (lift M) c)) (hd : okD d n = true) (hH : Has F M H)
    (h : ∀ b M', Has F M' (.obj b (.row tt rk c) :: H) → PureK P n all C r (putE d (v b) e) M') : PureK P n all C (⟨d, op, ty, pos, af, g⟩ :: r) e M := fun hwf => by
  have hnr : newRowS tt rk (lift M) c = ⟨M.t.put (some (.row tt rk c)) M.next, M.next.succ, M.next.num⟩ := rfl
  have hnx : nextOf (lift M) = M.next := rfl
  rw [hnr, hnx] at hx
  have h' := h M.next ⟨M.t.put (some (.row tt rk c)) M.next, M.next.succ, M.floor⟩ (hH.newObj hwf rfl)
  refine PureK.step (M1 := ⟨M.t.put (some (.row tt rk c)) M.next, M.next.succ, M.next.num⟩) (s := v M.next) ?_ (putE_some hd) (fun hw => hw.anew _) h' hwf
  have hx' : exec P (lift M) (treeOf e) ⟨d, op, ty, pos, af, g⟩ = .val (v M.next) ⟨M.t.put (some (.row tt rk c)) M.next, M.next.succ, M.next.num⟩ := hx
  exact .inr ⟨hw, .inl hx'⟩
theorem PureK.newVec {F : Rd} {H : List Ent} {tt : TypeId} {j z : Nat} {c : List SV} (hw : wantS all (treeOf e) ⟨d, op, ty, pos, af, g⟩ = some true) (hx : execO P (lift M) (treeOf e) op = .val (.slice (nextOf (lift M)) 0 j j) (newRowS tt (.head 0) (lift M) c)) (hd : okD d n = true) (hc : c.length = j * z) (hH : Has F M H)
    (h : ∀ s M', Has F M' (.vec tt z j s c :: H) → PureK P n all C r (putE d s e) M') : PureK P n all C (⟨d, op, ty, pos, af, g⟩ :: r) e M := fun hwf => by
  have hnr : newRowS tt (.head 0) (lift M) c = ⟨M.t.put (some (.row tt (.head 0) c)) M.next, M.next.succ, M.next.num⟩ := rfl
  have hnx : nextOf (lift M) = M.next := rfl
  rw [hnr, hnx] at hx
  have h' := h (.slice M.next 0 j j) ⟨M.t.put (some (.row tt (.head 0) c)) M.next, M.next.succ, M.floor⟩ (hH.cons (hwf.memLe_new _) (.inr ⟨M.next, .inl rfl, hc, hwf.own_new _⟩) fun b hb => by
    simp only [Ent.fp, blk, List.mem_cons, List.not_mem_nil, or_false] at hb
    subst hb
    exact Nat.le_refl _)
  refine PureK.step (M1 := ⟨M.t.put (some (.row tt (.head 0) c)) M.next, M.next.succ, M.next.num⟩) (s := .slice M.next 0 j j) ?_ (putE_some hd) (fun hw => hw.anew _) h' hwf
  have hx' : exec P (lift M) (treeOf e) ⟨d, op, ty, pos, af, g⟩ = .val (.slice M.next 0 j j) ⟨M.t.put (some (.row tt (.head 0) c)) M.next, M.next.succ, M.next.num⟩ := hx
  exact .inr ⟨hw, .inl hx'⟩
theorem PureK.callP {f : FuncId} {xs : List SV} {s0 : SV} (hw : wantS all (treeOf e) ⟨d, op, ty, pos, af, g⟩ = some true) (hx : execO P (lift M) (treeOf e) op = .enter f xs (lift M)) (hd : okD d n = true) (hc : CallsM P f xs (lift M) fun s M' => s = s0 ∧ M' = lift M)
    (h : PureK P n all C r (putE d s0 e) M) : PureK P n all C (⟨d, op, ty, pos, af, g⟩ :: r) e M := fun hwf => by
  obtain ⟨s, M', h1, h2, rfl, rfl⟩ := hc (WF.lift hwf)
  refine PureK.step (M1 := lift M) (s := s) ?_ (putE_some hd) (fun hw => .refl hw) h hwf
  exact .inr ⟨hw, .inr ⟨f, xs, lift M, hx, h1⟩⟩
theorem SeqLG.step {o : Oper} {M1 : Mem} {e1 : Env} {s : SV} (hv : EvalR P all M (treeOf e) o s M1) (hp : putD (treeOf e) n o.dst s = some (treeOf e1)) (hw : Aft M M1) (hst : allStill P all M1 (treeOf e1) L = true)
    (h : SeqLG P fx n Q all L k r e1 M1) : SeqLG P fx n Q all L k (o :: r) e M := fun _ => by
  obtain ⟨e', M', h1, h2, h3⟩ := h hw.wf
  exact ⟨e', M', .cons hv hp hst h1, hw.trans h2, h3⟩
theorem SeqLG.callX {f : FuncId} {xs : List SV} {R : SV → Mem → Prop} (hw : wantS all (treeOf e) ⟨d, op, ty, pos, af, g⟩ = some true) (hd : okD d n = true) (hx : execO P M (treeOf e) op = .enter f xs M) (hc : CallsM P f xs M R)
    (h : ∀ v M', R v M' → allStill P all M' (treeOf (putE d v e)) L = true ∧ SeqLG P fx n Q all L k r (putE d v e) M') : SeqLG P fx n Q all L k (⟨d, op, ty, pos, af, g⟩ :: r) e M := fun hwf => by
  obtain ⟨s, M', h1, h2, h3⟩ := hc hwf
  obtain ⟨h4, h5⟩ := h s M' h3
  refine SeqLG.step (M1 := M') (s := s) ?_ (putE_some hd) h2 h4 h5 hwf
  exact .inr ⟨hw, .inr ⟨f, xs, M, hx, h1⟩⟩
theorem SeqLG.val (hw : wantS all (treeOf e) ⟨d, op, ty, pos, af, g⟩ = some true) (hx : execO P M (treeOf e) op = .val s M) (hd : okD d n = true) (hst : allStill P all M (treeOf (putE d s e)) L = true)
    (h : SeqLG P fx n Q all L k r (putE d s e) M) : SeqLG P fx n Q all L k (⟨d, op, ty, pos, af, g⟩ :: r) e M := fun hwf => by
  refine SeqLG.step (M1 := M) (s := s) ?_ (putE_some hd) (.refl hwf) hst h hwf
  have hx' : exec P M (treeOf e) ⟨d, op, ty, pos, af, g⟩ = .val s M := hx
  exact .inr ⟨hw, .inl hx'⟩
theorem SeqLG.no (hw : wantS all (treeOf e) ⟨d, op, ty, pos, af, g⟩ = some false) (hd : okD d n = true) (hst : allStill P all M (treeOf (putE d (.tuple []) e)) L = true)
    (h : SeqLG P fx n Q all L k r (putE d (.tuple []) e) M) : SeqLG P fx n Q all L k (⟨d, op, ty, pos, af, g⟩ :: r) e M := fun hwf => by
  refine SeqLG.step (M1 := M) (s := .tuple []) ?_ (putE_some hd) (.refl hwf) hst h hwf
  exact .inl ⟨hw, rfl, rfl⟩
theorem SeqLG.opX {R : SV → Mem → Prop} (hw : wantS all (treeOf e) ⟨d, op, ty, pos, af, g⟩ = some true) (hd : okD d n = true) (hx : ExG P M e op R)
    (h : ∀ v M', R v M' → allStill P all M' (treeOf (putE d v e)) L = true ∧ SeqLG P fx n Q all L k r (putE d v e) M') : SeqLG P fx n Q all L k (⟨d, op, ty, pos, af, g⟩ :: r) e M := fun hwf => by
  obtain ⟨v, M1, h1, h2, h3⟩ := hx hwf
  obtain ⟨h4, h5⟩ := h v M1 h3
  refine SeqLG.step (M1 := M1) (s := v) ?_ (putE_some hd) h2 h4 h5 hwf
  have hx' : exec P M (treeOf e) ⟨d, op, ty, pos, af, g⟩ = .val v M1 := h1
  exact .inr ⟨hw, .inl hx'⟩
end
end
end Go.Ev
namespace Go.Ev
open Go.RowKit
variable {P : Program}
def bytesI (l : List UInt8) : List Int := l.map fun b => (b.toNat : Int)
theorem bytesI_len (l : List UInt8) : (bytesI l).length = l.length := by simp [bytesI]
def byt (l : List UInt8) : Option (List Int) := bif Nat.ble l.length 1073741824 then some (bytesI l) else none
theorem byt_some {l : List UInt8} {r : List Int} (h : byt l = some r) : r = bytesI l ∧ l.length ≤ 1073741824 := by
  unfold byt at h
  cases hb : Nat.ble l.length 1073741824 with
  | false => rw [hb] at h; simp at h
  | true =>
    rw [hb] at h
    exact ⟨(Option.some.inj h).symm, Nat.le_of_ble_eq_true hb⟩
theorem bytesS_flat {enc : Int → List SV} (he : ∀ x, enc x = [.int .u8 x]) : ∀ l : List UInt8, bytesS l = (bytesI l).flatMap enc
  | [] => rfl
  | a :: l => by
    show SV.int .u8 (Int.ofNat a.toNat) :: bytesS l = _
    rw [bytesS_flat he l]
    simp [bytesI, he]
section
variable {e : Env} {M : Mem} {x : Operand} {s d : TypeId} {F : Rd} {H : List Ent} {fx : Fx} {n : Nat} {Q : SV → Mem → Prop} {k : List SItem}
theorem ExG.bytes {et : TypeId} {l : List UInt8} {r : List Int} (h : ar e x = some (.str l)) (hu : uvK P s d = none) (hk : cvK P s d = some (.bytes et)) (hl : byt l = some r) (hH : Has F M H) :
    ExG P M e (.convert s d x) fun v M' => ∃ b, v = .ope b 0 r.length 1 ∧ Has F M' (.obj b (.row et .mark (bytesS l)) :: H) := by
  obtain ⟨rfl, hle⟩ := byt_some hl
  refine ExG.new (v := fun b => .ope b 0 (bytesI l).length 1) ?_ hH
  show eConv P M (treeOf e) s d x = _
  unfold eConv
  rw [ar_arg h]
  show xConvert2 P s d (.str l) M = _
  unfold xConvert2
  have hb : Nat.ble (lenB l) 1073741824 = true := by rw [lenB_eq]; exact Nat.ble_eq_true_of_le hle
  simp only [hu, xConvert, hk, hb]
  rw [lenB_eq, bytesI_len]
theorem Run.freezeB {i t : Nat} {b : Pos} {tt : TypeId} {rk : RK} {l : List UInt8} {r : List Int} {enc : Int → List SV} (he : ∀ x, enc x = [.int .u8 x]) (hl : byt l = some r) (ht : lk t e = some (.ope b 0 r.length 1)) (hH : Has F M H) (hi : H[i]? = some (.obj b (.row tt rk (bytesS l))))
    (next : ∀ F' M', RdLe F F' → Has F' M' (H.set i (.vec 0 0 0 .nils [])) → Slc F' 1 (FlatR enc) (.ope b 0 r.length 1) r → Run P fx n Q e k M') : Run P fx n Q e k M := by
  obtain ⟨rfl, hle⟩ := byt_some hl
  have ho := (hH.get hi).1
  have hnx := hH.upd (y := .vec 0 0 0 .nils []) (M' := ⟨M.t.put (some (.ro (bytesS l))) b, M.next, M.floor⟩) hi (put_ro ho rfl) (fun c o hcn hco => put_keep c o hcn hco) (.inl ⟨rfl, rfl, rfl⟩) (fun b hb => by simp [Ent.fp, blk] at hb)
  have hro : ro ⟨M.t.put (some (.ro (bytesS l))) b, M.next, M.floor⟩ b = some (bytesS l) := ro_mk ho.lt (.inl (Tree.get_put_same _ _ _))
  have hlen : ∀ a, (enc a).length = 1 := fun a => by rw [he]; rfl
  refine Run.frozeAt ht (fun m hm => by simp [conc, hm]) ho (next _ _ hnx.base (hnx.upF fun _ _ h => h) (.inr ⟨b, 0, _, .inr rfl, hro, ?_, fun i a ha => ?_⟩))
  · rw [bytesS_flat he, flatm_len hlen]; omega
  · rw [bytesS_flat he, Nat.zero_add]
    exact flat_at hlen (bytesI l) i a ha
end
section
variable {P : Program}
theorem string_self (s : ByteArray) : (⟨s.data.toList.toArray⟩ : ByteArray) = s := by
  cases s
  simp
theorem AtM.row {m : Map} {j : Nat} {r : ARow} (h : AtM m j [argB r]) : ∀ x, r = some x → m (Pos.ofNat j) = some x.1 := fun x hx => h 0 (false, x.1, x.2) (by rw [hx]; rfl)
end
theorem memB_rel3 {W : World} {l : List BRow} (h : ∀ (j : Nat) (x : Bool × Pl × List SV), l[j]? = some (some x) → x.2.1.block < W.heap.size ∧ RowRel (mapB l) x.2.1 none .lost x.2.2 W.heap[x.2.1.block]? ∧ (x.1 = true → x.2.1.block = j ∧ x.2.1.shift = 0 ∧ x.2.1.size = x.2.2.length)) : MRel W.heap.size (mapB l) (memB l) W := by
  have hown : ∀ x, (objB x).own = false := fun x => by unfold objB; cases x.1 <;> rfl
  refine ⟨fun b o p hb hp => ?_, fun b b' o o' p p' hb hb' how _ _ _ => ?_, fun b hb => ?_, fun b p hp => ?_, fun b o p hb ho _ => ?_, Nat.le_refl _, fun b c hb => ?_, ?_⟩
  · obtain ⟨x, hx, rfl⟩ := memB_get hb
    obtain ⟨y, hy, rfl⟩ := mapB_get hp
    rw [hx] at hy
    simp only [Option.some.injEq] at hy
    subst hy
    have := (h _ _ hx).2.1
    unfold objB
    cases x.1 <;> exact this
  · obtain ⟨x, _, rfl⟩ := memB_get hb
    obtain ⟨x', _, rfl⟩ := memB_get hb'
    rcases how with h | h
    · rw [hown] at h; simp at h
    · rw [hown] at h; simp at h
  · have hb' : (Pos.ofNat l.length).num ≤ b.num := hb
    rw [Pos.num_ofNat] at hb'
    constructor
    · cases hm : mapB l b with
      | none => rfl
      | some p =>
        obtain ⟨x, hx, _⟩ := mapB_get hm
        have := (List.getElem?_eq_some_iff.1 hx).1
        omega
    · cases hm : (memB l).t.get b with
      | none => rfl
      | some o =>
        obtain ⟨x, hx, _⟩ := memB_get hm
        have := (List.getElem?_eq_some_iff.1 hx).1
        omega
  · obtain ⟨x, hx, rfl⟩ := mapB_get hp
    exact (h _ _ hx).1
  · obtain ⟨x, _, rfl⟩ := memB_get hb
    rw [hown] at ho; simp at ho
  · obtain ⟨x, hx, hxo⟩ := memB_get hb
    have hx1 : x.1 = true ∧ x.2.2 = c := by
      unfold objB at hxo
      cases h1 : x.1 with
      | false => rw [h1] at hxo; simp at hxo
      | true => rw [h1] at hxo; simp at hxo; exact ⟨rfl, hxo.symm⟩
    obtain ⟨_, _, h3⟩ := h _ _ hx
    obtain ⟨g1, g2, g3⟩ := h3 hx1.1
    refine ⟨x.2.1.size, ?_, by rw [g3, hx1.2]⟩
    unfold mapB
    rw [hx]
    simp only [Option.some.injEq]
    obtain ⟨xf, ⟨xb, xs, xz⟩, xc⟩ := x
    simp only at g1 g2
    rw [g1, g2]
  · show l.length + 1 ≤ (Pos.ofNat l.length).num
    rw [Pos.num_ofNat]; exact Nat.le_refl _
end Go.Ev
