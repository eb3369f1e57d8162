/- A part of the small machine. -/
import Derived.Test.YtoobfmfgbcohcabGreatDoorEvL14
set_option linter.unusedVariables false
/- Regions in which operations that only read may zso wait while others write. -/
namespace Go.Ev
open Go.RowKit
variable {P : Program}

section
variable {B : Nat} {n N : Nat} {all : Array Oper} {Ms : Nat → Mem} {σs : Nat → Tree SV} {ss : Nat → SV} {m0 : Map} {w0 : World}
end
section
variable {fx : Fx} {n : Nat} {Q : SV → Mem → Prop} {e : Env} {k : List SItem} {M : Mem} {all : Array Oper} {L : List Nat} {C : Env → Mem → Prop}
section
variable {op : Op} {ty : TypeId} {pos : String} {af : Array Edge} {g : Option (Nat × Bool)} {d : Option Tmp} {s : SV} {r : List Oper}
end
end
end Go.Ev

/- The bytes of a string as a slice that is only read. -/
namespace Go.Ev
open Go.RowKit
variable {P : Program}
def bytesI (l : List UInt8) : List Int := l.map fun b => (b.toNat : Int)
theorem bytesI_len (l : List UInt8) : (bytesI l).length = l.length := by simp [bytesI]
def byt (l : List UInt8) : Option (List Int) := bif Nat.ble l.length 1073741824 then some (bytesI l) else none
theorem zuy {l : List UInt8} {r : List Int} (h : byt l = some r) : r = bytesI l ∧ l.length ≤ 1073741824 := by
 unfold byt at h
 cases hb : Nat.ble l.length 1073741824 with
 | false => rw [hb] at h; simp at h
 | true =>
  rw [hb] at h
  exact ⟨(Option.some.inj h).symm, Nat.le_of_ble_eq_true hb⟩
theorem zl9 {enc : Int → List SV} (he : ∀ x, enc x = [.int .u8 x]) : ∀ l : List UInt8, zkl l = (bytesI l).flatMap enc
 | [] => rfl
 | a :: l => by
  show SV.int .u8 (Int.ofNat a.toNat) :: zkl l = _
  rw [zl9 he l]
  simp [bytesI, he]
section
variable {e : Env} {M : Mem} {x : Operand} {s d : TypeId} {F : Rd} {H : List Ent} {fx : Fx} {n : Nat} {Q : SV → Mem → Prop} {k : List SItem}
theorem ExG.bytes {et : TypeId} {l : List UInt8} {r : List Int} (h : ar e x = some (.str l)) (hu : uvK P s d = none) (hk : cvK P s d = some (.bytes et)) (hl : byt l = some r) (hH : Has F M H) :
  ExG P M e (.convert s d x) fun v M' => ∃ b, v = .ope b 0 r.length 1 ∧ Has F M' (.obj b (.row et .mark (zkl l)) :: H) := by
 obtain ⟨rfl, hle⟩ := zuy hl
 refine ExG.new (v := fun b => .ope b 0 (bytesI l).length 1) ?_ hH
 show zt6 P M (treeOf e) s d x = _
 unfold zt6
 rw [zig h]
 show ziq P s d (.str l) M = _
 unfold ziq
 have hb : Nat.ble (zvw l) 1073741824 = true := by rw [zks]; exact Nat.ble_eq_true_of_le hle
 simp only [hu, zkp, hk, hb]
 rw [zks, bytesI_len]
theorem Run.freezeB {i t : Nat} {b : Pos} {tt : TypeId} {rk : RK} {l : List UInt8} {r : List Int} {enc : Int → List SV} (he : ∀ x, enc x = [.int .u8 x]) (hl : byt l = some r) (ht : lk t e = some (.ope b 0 r.length 1)) (hH : Has F M H) (hi : H[i]? = some (.obj b (.row tt rk (zkl l))))
  (next : ∀ F' M', RdLe F F' → Has F' M' (H.set i (.vec 0 0 0 .nils [])) → Slc F' 1 (FlatR enc) (.ope b 0 r.length 1) r → Run P fx n Q e k M') : Run P fx n Q e k M := by
 obtain ⟨rfl, hle⟩ := zuy hl
 have ho := (hH.get hi).1
 have hnx := hH.upd (y := .vec 0 0 0 .nils []) (M' := ⟨M.t.put (some (.ro (zkl l))) b, M.next, M.floor⟩) hi (zpp ho rfl) (fun c o hcn hco => zlj c o hcn hco) (.inl ⟨rfl, rfl, rfl⟩) (fun b hb => by simp [Ent.fp, blk] at hb)
 have hro : ro ⟨M.t.put (some (.ro (zkl l))) b, M.next, M.floor⟩ b = some (zkl l) := zvx ho.lt (.inl (Tree.get_put_same _ _ _))
 have hlen : ∀ a, (enc a).length = 1 := fun a => by rw [he]; rfl
 refine Run.frozeAt ht (fun m hm => by simp [conc, hm]) ho (next _ _ hnx.base (hnx.upF fun _ _ h => h) (.inr ⟨b, 0, _, .inr rfl, hro, ?_, fun i a ha => ?_⟩))
 ·rw [zl9 he, zlr hlen]; omega
 ·rw [zl9 he, Nat.zero_add]
  exact znm hlen (bytesI l) i a ha
end
section
variable {P : Program}
theorem string_self (s : ByteArray) : (⟨s.data.toList.toArray⟩ : ByteArray) = s := by
 cases s
 simp
end
theorem memB_rel3 {W : World} {l : List BRow} (h : ∀ (j : Nat) (x : Bool × Pl × List SV), l[j]? = some (some x) → x.2.1.block < W.heap.size ∧ RowRel (mapB l) x.2.1 none .lost x.2.2 W.heap[x.2.1.block]? ∧ (x.1 = true → x.2.1.block = j ∧ x.2.1.shift = 0 ∧ x.2.1.size = x.2.2.length)) : MRel W.heap.size (mapB l) (memB l) W := by
 have hown : ∀ x, (zzl x).own = false := fun x => by unfold zzl; cases x.1 <;> rfl
 refine ⟨fun b o p hb hp => ?_, fun b b' o o' p p' hb hb' how _ _ _ => ?_, fun b hb => ?_, fun b p hp => ?_, fun b o p hb ho _ => ?_, Nat.le_refl _, fun b c hb => ?_, ?_⟩
 ·obtain ⟨x, hx, rfl⟩ := zm8 hb
  obtain ⟨y, hy, rfl⟩ := zrw hp
  rw [hx] at hy
  simp only [Option.some.injEq] at hy
  subst hy
  have := (h _ _ hx).2.1
  unfold zzl
  cases x.1 <;> exact this
 ·obtain ⟨x, _, rfl⟩ := zm8 hb
  obtain ⟨x', _, rfl⟩ := zm8 hb'
  rcases how with h | h
  ·rw [hown] at h; simp at h
  ·rw [hown] at h; simp at h
 ·have hb' : (Pos.ofNat l.length).num ≤ b.num := hb
  rw [Pos.num_ofNat] at hb'
  constructor
  ·cases hm : mapB l b with
   | none => rfl
   | some p =>
    obtain ⟨x, hx, _⟩ := zrw hm
    have := (List.getElem?_eq_some_iff.1 hx).1
    omega
  ·cases hm : (memB l).t.get b with
   | none => rfl
   | some o =>
    obtain ⟨x, hx, _⟩ := zm8 hm
    have := (List.getElem?_eq_some_iff.1 hx).1
    omega
 ·obtain ⟨x, hx, rfl⟩ := zrw hp
  exact (h _ _ hx).1
 ·obtain ⟨x, _, rfl⟩ := zm8 hb
  rw [hown] at ho; simp at ho
 ·obtain ⟨x, hx, hxo⟩ := zm8 hb
  have hx1 : x.1 = true ∧ x.2.2 = c := by
   unfold zzl at hxo
   cases h1 : x.1 with
   | false => rw [h1] at hxo; simp at hxo
   | true => rw [h1] at hxo; simp at hxo; exact ⟨rfl, hxo.symm⟩
  obtain ⟨_, _, h3⟩ := h _ _ hx
  obtain ⟨g1, g2, g3⟩ := h3 hx1.1
  refine ⟨x.2.1.size, ?_, by rw [g3, hx1.2]⟩
  unfold mapB
  rw [hx]
  simp only [Option.some.injEq]
  obtain ⟨xf, ⟨xb, xs, xz⟩, xc⟩ := x
  simp only at g1 g2
  rw [g1, g2]
 ·show l.length + 1 ≤ (Pos.ofNat l.length).num
  rw [Pos.num_ofNat]; exact Nat.le_refl _
end Go.Ev

