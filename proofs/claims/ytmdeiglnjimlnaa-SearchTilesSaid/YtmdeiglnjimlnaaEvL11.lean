/- A part of the small machine. -/
import Derived.Test.YtmdeiglnjimlnaaEvL10
set_option linter.unusedVariables false
/- Zeros appended to nil; a slice cut to nothing, whose room is used again; structs with arrays that are built and stored whole. -/
namespace Go.Ev
open Go.RowKit
/-- So many zeros, at least one. -/
def mkz {α : Type} (n : Int) (bytes : Nat) (z : α) : Option (List α) := match n with
  | .ofNat 0 => none
  | .ofNat (j + 1) => bif Nat.ble (j + 1) 4611686018427387904 && Nat.ble (2 * (j + 1) * bytes) 281474976710656 then some (List.replicate (j + 1) z) else none
  | .negSucc _ => none
theorem mkz_some {α : Type} {n : Int} {bytes : Nat} {z : α} {l : List α} (h : mkz n bytes z = some l) : ∃ j : Nat, n = ((j + 1 : Nat) : Int) ∧ j + 1 ≤ 4611686018427387904 ∧ 2 * (j + 1) * bytes ≤ 281474976710656 ∧ l = List.replicate (j + 1) z := by
  match n with
  | .negSucc _ => simp [mkz] at h
  | .ofNat 0 => simp [mkz] at h
  | .ofNat (j + 1) =>
    rcases btf (Nat.ble (j + 1) 4611686018427387904 && Nat.ble (2 * (j + 1) * bytes) 281474976710656) with hc | hc
    · have h' := bif_t hc h
      rw [Bool.and_eq_true] at hc
      exact ⟨j, rfl, Nat.le_of_ble_eq_true hc.1, Nat.le_of_ble_eq_true hc.2, (Option.some.inj h').symm⟩
    · have h' := bif_f hc h
      simp at h'
theorem mkz_pos {α : Type} {n : Int} {bytes : Nat} {z : α} {l : List α} (h : mkz n bytes z = some l) : Nat.ble 1 l.length = true := by
  obtain ⟨j, _, _, _, rfl⟩ := mkz_some h
  exact Nat.ble_eq_true_of_le (by rw [List.length_replicate]; omega)
section
variable {P : Program} {F : Rd} {M : Mem} {H : List Ent} {e : Env} {p q : Operand} {t u tt : TypeId} {α : Type} {enc : α → List SV} {i n z by' : Nat} {bb : Pos} {l : List α} {c : List SV}
theorem ex_capN {y : Operand} (h : ar e y = some .nils) (hk : lenK P t = some .sl) : execO P M (treeOf e) (.call ⟨.builtin .cap, #[y], #[t]⟩) = .val (.int .i64 (0 : Int)) M := by
  rw [ex_builtin (l := [.nils]) (by show (match ar e y, ars e [] with | some s, some r => some (s :: r) | _, _ => none) = _; rw [h]; rfl)]
  show xCap P t .nils M = _
  unfold xCap
  rw [hk]
  rfl
theorem ExG.appendZ {el : Elt} {z0 : α} {kk : IntKind} {nn : Int} (h : ar e p = some .nils) (h' : ar e q = some (.int kk nn)) (hl : mkz nn by' z0 = some l) (ha : appT P t u = none) (hx : sliceElt P t = some el) (hu : intTy P u = true) (hby : el.bytes = by') (hsz : el.size = z) (hz0 : el.zero = enc z0) (hz1 : Nat.ble 1 z = true) (hlen : ∀ a, (enc a).length = z) (hH : Has F M H) :
    ExG P M e (.call ⟨.builtin .append, #[p, q], #[t, u]⟩) fun s' M' => ∃ b, s' = .ope b 0 l.length z ∧ Has F M' (.vec el.ty z l.length (.ope b 0 l.length z) (l.flatMap enc) :: H) := by
  intro hw
  subst hby hsz
  have hz1' := Nat.le_of_ble_eq_true hz1
  obtain ⟨j, rfl, h1, h2, rfl⟩ := mkz_some hl
  have hxx : execO P M (treeOf e) (.call ⟨.builtin .append, #[p, q], #[t, u]⟩) = xAppend P t u .nils (.int kk ((j + 1 : Nat) : Int)) M := by
    rw [ex_builtin (l := [.nils, .int kk ((j + 1 : Nat) : Int)]) (by show ars e [p, q] = _; simp only [ars, h, h'])]
    rfl
  have hin : intNat (((j + 1 : Nat) : Int)) = some (j + 1) := rfl
  have hg : xAppend P t u .nils (.int kk ((j + 1 : Nat) : Int)) M = grow (.head 0) M el (j + 1) (rep (j + 1) el.zero) := by
    unfold xAppend
    rw [ha]
    show xAppendZ P t u .nils (.int kk ((j + 1 : Nat) : Int)) M = _
    unfold xAppendZ
    simp only [hx, hu, hin]
  rw [grow_eq h1 h2 hz1', rep_flat hz0] at hg
  refine ⟨.ope M.next 0 (j + 1) el.size, _, hxx.trans hg, hw.anew _, M.next, by rw [List.length_replicate], hH.cons (hw.memLe_new _) (.inr ⟨M.next, .inr rfl, flatm_len hlen _, hw.own_new _⟩) fun b hb => ?_⟩
  simp only [Ent.fp, blk, List.mem_cons, List.not_mem_nil, or_false] at hb
  subst hb
  exact Nat.le_refl _
/-- Cut to nothing: the row is still the run's own. -/
theorem cut0_sl {k0 : IntKind} (hn : Nat.ble 1 n = true) (hk : slK P t = some (.sl z)) (M : Mem) : xSlice P t (.ope bb 0 n z) none (some (.int k0 0)) none M = .val (.ope bb 0 0 z) M := by
  have hn' := Nat.le_of_ble_eq_true hn
  have e : bnds none (some (.int k0 0)) none n n = some (0, 0, n) := by
    have h2 : Nat.ble 0 n = true := Nat.ble_eq_true_of_le (Nat.zero_le _)
    have h1 : boundS (some (.int k0 0)) n n = some 0 := by
      unfold boundS
      simp only [show intNat 0 = some 0 from rfl, h2]
    unfold bnds
    rw [show boundS none n n = some n from rfl]
    simp only [h1]
    rfl
  unfold xSlice
  simp only [hk, e, Nat.beq_refl]
  have hz : Nat.ble n 0 = false := by
    cases h : Nat.ble n 0 with
    | false => rfl
    | true => have := Nat.le_of_ble_eq_true h; omega
  simp only [hz, Nat.add_eq, Nat.mul_eq, Nat.zero_mul, Nat.sub_eq]
theorem ExG.cut0 {op : Op} (hx : execO P M (treeOf e) op = .val (.ope bb 0 0 z) M) (hH : Has F M H) (hi : H[i]? = some (.vec tt z n (.ope bb 0 n z) c)) : ExG P M e op fun s M' => s = .ope bb 0 0 z ∧ Has F M' (H.set i (.obj bb (.row tt (.head 0) c))) := by
  intro hw
  refine ⟨_, M, hx, .refl hw, rfl, ?_⟩
  rcases hH.get hi with ⟨h, _⟩ | ⟨b, hs, _, ho⟩
  · simp at h
  · have hb : b = bb := by
      rcases hs with h | h
      · simp at h
      · simp only [SV.ope.injEq] at h; exact h.1.symm
    subst hb
    exact hH.upd hi (.refl M) (fun _ _ _ h => h) ⟨ho, rfl⟩ (fun b hb => .inl (by simpa [Ent.fp, blk] using hb))
theorem MRel.trunc {B : Nat} {m : Map} {M : Mem} {w : World} (hr : MRel B m M w) {b : Pos} {tt : TypeId} {j : Nat} {c : List SV} (hb : M.t.get b = some (.row tt (.head j) c)) : MRel B m ⟨M.t.put (some (.row tt (.head j) [])) b, M.next, M.floor⟩ w := by
  have hg : ∀ b' o, (M.t.put (some (SObj.row tt (.head j) [])) b).get b' = some o → b' = b ∧ o = .row tt (.head j) [] ∨ b' ≠ b ∧ M.t.get b' = some o := by
    intro b' o h
    by_cases he : b = b'
    · subst he
      rw [Tree.get_put_same] at h
      exact .inl ⟨rfl, (Option.some.inj h).symm⟩
    · rw [Tree.get_put_other _ _ he] at h
      exact .inr ⟨fun e => he e.symm, h⟩
  refine ⟨fun b' o p h hp => ?_, fun b1 b2 o1 o2 p1 p2 h1 h2 how hp1 hp2 he => ?_, fun b' h => ⟨(hr.fresh b' h).1, ?_⟩, hr.bound, fun b' o p h ho hp => ?_, hr.base, fun b' c' h => ?_, hr.flo⟩
  · rcases hg b' o h with ⟨rfl, rfl⟩ | ⟨_, h⟩
    · obtain ⟨e, fz, pre, vs, post, h1, hf, h2, h3, h4, h5⟩ := hr.objs b' _ p hb hp
      exact ⟨e, fz, pre, [], vs ++ post, h1, hf, h2, by simpa using h3, concs_nil _, h5⟩
    · exact hr.objs b' o p h hp
  · rcases hg b1 o1 h1 with ⟨e1, f1⟩ | ⟨_, g1⟩ <;> rcases hg b2 o2 h2 with ⟨e2, f2⟩ | ⟨_, g2⟩
    · exact e1.trans e2.symm
    · exact hr.inj b1 b2 _ o2 p1 p2 (e1 ▸ hb) g2 (.inl rfl) hp1 hp2 he
    · exact hr.inj b1 b2 o1 _ p1 p2 g1 (e2 ▸ hb) (.inr rfl) hp1 hp2 he
    · exact hr.inj b1 b2 o1 o2 p1 p2 g1 g2 how hp1 hp2 he
  · show Tree.get b' (M.t.put _ _) = none
    rw [Tree.get_put_other _ _ (fun e => by subst e; have := (hr.fresh b h).2; rw [hb] at this; simp at this)]
    exact (hr.fresh b' h).2
  · rcases hg b' o h with ⟨rfl, rfl⟩ | ⟨_, h⟩
    · exact hr.low _ _ p hb rfl hp
    · exact hr.low b' o p h ho hp
  · rcases hg b' _ h with ⟨_, h⟩ | ⟨_, h⟩
    · cases h
    · exact hr.glob b' c' h
theorem Stepped.trunc {B : Nat} {m : Map} {M : Mem} {w : World} (hr : MRel B m M w) {b : Pos} {tt : TypeId} {j : Nat} {c : List SV} (hb : Own M b (.row tt (.head j) c)) (hpl : m b ≠ none) : Stepped B m M w m ⟨M.t.put (some (.row tt (.head j) [])) b, M.next, M.floor⟩ w := by
  refine ⟨hr.trunc hb.get, fun _ _ => rfl, fun b' hl hm => ?_, Nat.le_refl _, Below.refl _ _, fun _ _ _ => rfl, fun k hk ho => ?_, fun b' hl => ?_, rfl, fun b' c' h => ?_, fun b' p hb' hp _ => absurd hp (by rw [(hr.fresh b' hb').1]; simp)⟩
  · by_cases he : b = b'
    · subst he
      exact absurd hm hpl
    · show Tree.get b' (M.t.put _ _) = _
      rw [Tree.get_put_other _ _ he]
  · obtain ⟨d, x, q, hx, hxo, hq, he⟩ := ho
    by_cases hd : b = d
    · subst hd
      exact ⟨b, _, q, hb.get, rfl, hq, he⟩
    · rw [Tree.get_put_other _ _ hd] at hx
      exact ⟨d, x, q, hx, hxo, hq, he⟩
  · show Tree.get b' (M.t.put _ _) = _
    rw [Tree.get_put_other _ _ (fun e => by subst e; have := hb.low; omega)]
  · by_cases he : b = b'
    · subst he
      rw [Tree.get_put_same] at h
      simp at h
    · rw [Tree.get_put_other _ _ he] at h
      exact h
variable {fx : Fx} {nn : Nat} {Q : SV → Mem → Prop} {k : List SItem}
/-- What has been cut to nothing is a slice of no elements again. -/
theorem Run.trunc {ti : Nat} (ht : lk ti e = some (.ope bb 0 0 z)) (hH : Has F M H) (hi : H[i]? = some (.obj bb (.row tt (.head 0) c)))
    (next : ∀ M', Has F M' (H.set i (.vec tt z 0 (.ope bb 0 0 z) [])) → Run P fx nn Q e k M') : Run P fx nn Q e k M := by
  have ho := (hH.get hi).1
  have hnx := hH.upd (y := .vec tt z 0 (.ope bb 0 0 z) []) (M' := ⟨M.t.put (some (.row tt (.head 0) [])) bb, M.next, M.floor⟩) hi (put_ro ho rfl) (fun c o hcn hco => put_keep c o hcn hco)
    (.inr ⟨bb, .inr rfl, by simp, ⟨Tree.get_put_same _ _ _, ho.low, ho.lt⟩⟩) (fun b hb => .inl (by simpa [Ent.fp, blk] using hb))
  have hrun := next _ hnx
  intro hw
  have ha : Aft M ⟨M.t.put (some (.row tt (.head 0) [])) bb, M.next, M.floor⟩ := hw.put ho.lt
  obtain ⟨s, M', hq, ha2, hto⟩ := hrun ha.wf
  refine ⟨s, M', hq, ha.trans ha2, ?_⟩
  intro hmix B m w fr frs cs0 hr hf hcs
  have hpl : m bb ≠ none := by
    intro hm
    obtain ⟨c, tm, todo, rfl, hcx, htr, hn, hk⟩ := hf
    obtain ⟨v, _, hv⟩ := htr ti _ (by rw [treeOf_get]; exact ht)
    simp [conc, hm] at hv
  have hst := Stepped.trunc hr ho hpl
  obtain ⟨fr', w', m', x, g1, g2, g3, g4, g5⟩ := hto hmix B m w fr frs cs0 hst.rel hf hcs
  exact ⟨fr', w', m', x, g1, hst.trans g2, g3, g4, g5⟩
/-- A struct with arrays is stored whole. -/
theorem ExG.storeAll {zz : Nat} {l0 : List α} (h : ar e p = some (.ptr bb 0)) (h' : ar e q = some (.agg (l.flatMap enc))) (hH : Has F M H) (hi : H[i]? = some (.obj bb (.row tt .whole (l0.flatMap enc)))) (hz : szOf P t = some zz) (hlen : ∀ a, (enc a).length = 1) (h1 : ∀ a, ones (enc a) = true) (hl : l.length = zz) (hl0 : l0.length = zz) :
    ExG P M e (.store t p q) fun s M' => s = .tuple [] ∧ Has F M' (H.set i (.obj bb (.row tt .whole (l.flatMap enc)))) :=
  ExG.storeC (cs := l.flatMap enc) h h' rfl hH hi hz (by rw [flatm_len hlen, hl, Nat.mul_one]) rfl (Nat.ble_eq_true_of_le (by rw [flatm_len hlen, hl0]; omega)) (ones_enc h1 l) (by
    rw [List.take_zero, List.nil_append, Nat.zero_add, List.drop_of_length_le (by rw [flatm_len hlen, hl0]; omega), List.append_nil])
end
end Go.Ev

