/- A part of the small machine. -/
import Derived.Test.YtodkhehadlkbiaaGreatDoorEvR5
import Derived.Deep.Slices
import Derived.ReadAgain
/- More rules: parts of slices, elements in regions that draw. -/
namespace Go.Ev
open Go.RowKit
variable {P : Program}
section
variable {B : Nat} {fn : FuncId} {n : Nat} {Q : SV → Mem → Prop} {e : Env} {k : List SItem} {M : Mem} {all : Array Oper} {t u : TypeId} {x y : Operand} {kk : IntKind} {a : Int}

theorem xi_el {α : Type} {z : Nat} {R : List SV → α → Prop} {f : Rd} {s : SV} {l : List α} {el : α} (hs : Slc f z R s l) (hi : idx l a = some el) (hz : elems P t = some (.sl z)) :
    ∃ b off cs, xIndexAddr P t s (.int kk a) M = .val (.ptr b off) M ∧ PtrTo f (.ptr b off) cs ∧ R cs el := by
  obtain ⟨b, off, cs, h1, h2, h3⟩ := ex_el (P := P) (M := M) (e := [(0, s), (1, .int kk a)]) (x := .tmp 0) (y := .tmp 1) (kk := kk) rfl rfl hs hi hz
  exact ⟨b, off, cs, h1, h2, h3⟩
theorem ex_elS {s i v : SV} {M' : Mem} (h : ar e x = some s) (h' : ar e y = some i) (hx : xIndexAddr P t s i M = .val v M') : execO P M (treeOf e) (.indexAddr t x y) = .val v M' := by
  show eIndexA P M (treeOf e) t x y = _
  unfold eIndexA
  rw [ar_arg h, ar_arg h']
  exact hx

section
variable {α : Type} {z : Nat} {R : List SV → α → Prop} {f : Rd} {s : SV} {l l' : List α} {lo hi : Int} {r : List Oper} {d : Tmp} {ty : TypeId} {pos : String} {af : Array Edge} {g : Option (Nat × Bool)}
theorem Run.subH (hw : wantS all (treeOf e) ⟨some d, .slice t x none (some y) none, ty, pos, af, g⟩ = some true) (h : ar e x = some s) (h' : ar e y = some (.int kk hi)) (hs : Slc f z R s l) (hl : sub l 0 hi = some l') (hk : slK P t = some (.sl z)) (hd : Nat.ble (Nat.succ d) n = true)
    (next : ∀ s', Slc f z R s' l' → Run P B fn n Q ((d, s') :: e) (.ops all r :: k) M) : Run P B fn n Q e (.ops all (⟨some d, .slice t x none (some y) none, ty, pos, af, g⟩ :: r) :: k) M := by
  obtain ⟨s', h1, h2⟩ := ex_sub_hi (P := P) (M := M) h h' hs hl hk
  exact .opG hw h1 hd (next s' h2)
theorem Run.subL (hw : wantS all (treeOf e) ⟨some d, .slice t x (some y) none none, ty, pos, af, g⟩ = some true) (h : ar e x = some s) (h' : ar e y = some (.int kk lo)) (hs : Slc f z R s l) (hl : sub l lo l.length = some l') (hk : slK P t = some (.sl z)) (hd : Nat.ble (Nat.succ d) n = true)
    (next : ∀ s', Slc f z R s' l' → Run P B fn n Q ((d, s') :: e) (.ops all r :: k) M) : Run P B fn n Q e (.ops all (⟨some d, .slice t x (some y) none none, ty, pos, af, g⟩ :: r) :: k) M := by
  obtain ⟨s', h1, h2⟩ := ex_sub_lo (P := P) (M := M) h h' hs hl hk
  exact .opG hw h1 hd (next s' h2)
theorem Run.subB {y' : Operand} {kk' : IntKind} (hw : wantS all (treeOf e) ⟨some d, .slice t x (some y) (some y') none, ty, pos, af, g⟩ = some true) (h : ar e x = some s) (h' : ar e y = some (.int kk lo)) (h'' : ar e y' = some (.int kk' hi)) (hs : Slc f z R s l) (hl : sub l lo hi = some l') (hk : slK P t = some (.sl z)) (hd : Nat.ble (Nat.succ d) n = true)
    (next : ∀ s', Slc f z R s' l' → Run P B fn n Q ((d, s') :: e) (.ops all r :: k) M) : Run P B fn n Q e (.ops all (⟨some d, .slice t x (some y) (some y') none, ty, pos, af, g⟩ :: r) :: k) M := by
  obtain ⟨s', h1, h2⟩ := ex_sub_both (P := P) (M := M) h h' h'' hs hl hk
  exact .opG hw h1 hd (next s' h2)
end

/- REGIONS THAT DRAW, operation by operation -/
/-- What does not hang on the world. -/
def WF (M : Mem) : Prop := (∀ b : Pos, M.next.num ≤ b.num → M.t.get b = none) ∧ M.floor ≤ M.next.num
theorem WF.fresh {M : Mem} (h : WF M) {b : Pos} {o : SObj} (hb : M.t.get b = some o) : b.num < M.next.num := by
  apply Classical.byContradiction
  intro hn
  rw [h.1 b (by omega)] at hb
  simp at hb
theorem WF.new {M : Mem} (h : WF M) (o : SObj) : WF ⟨M.t.put (some o) M.next, M.next.succ, M.floor⟩ := by
  refine ⟨fun b hb => ?_, ?_⟩
  · have hb' : M.next.succ.num ≤ b.num := hb
    rw [Pos.num_succ] at hb'
    show Tree.get b (M.t.put _ _) = none
    rw [Tree.get_put_other _ _ (fun he => by subst he; omega)]
    exact h.1 b (by omega)
  · show M.floor ≤ M.next.succ.num
    rw [Pos.num_succ]
    have := h.2
    omega
theorem WF.memLe_new {M : Mem} (h : WF M) (o : SObj) : MemLe M ⟨M.t.put (some o) M.next, M.next.succ, M.floor⟩ := by
  have hne : ∀ b x, M.t.get b = some x → M.next ≠ b := by
    intro b x hx he
    have := h.fresh hx
    rw [← he] at this
    omega
  have hlt : ∀ b : Pos, b.num < M.next.num → b.num < M.next.succ.num := by intro b h; rw [Pos.num_succ]; omega
  refine ⟨fun b c h => ?_, fun b t kk c h => ⟨?_, h.low, hlt b h.lt⟩, by show M.next.num ≤ M.next.succ.num; rw [Pos.num_succ]; omega⟩
  · obtain ⟨hb, h⟩ := ro_get h
    refine ro_mk (hlt b hb) ?_
    rcases h with h | h
    · exact .inl (by show Tree.get b (M.t.put _ _) = _; rw [Tree.get_put_other _ _ (hne b _ h)]; exact h)
    · exact .inr (by show Tree.get b (M.t.put _ _) = _; rw [Tree.get_put_other _ _ (hne b _ h)]; exact h)
  · show Tree.get b (M.t.put _ _) = _
    rw [Tree.get_put_other _ _ (hne b _ h.get)]
    exact h.get

def DrawG (P : Program) (B : Nat) (fn : FuncId) (n : Nat) (Q : SV → Mem → Prop) (D : Known) (all : Array Oper) (k : List SItem) (pl : List PE) (e : Env) (M : Mem) : Prop :=
  WF M → ∃ e' M', drawS D P n all pl (treeOf e) M = some (treeOf e', M') ∧ Run P B fn n Q e' k M'

variable {D : Known}
theorem Run.drawG {i : Nat} {ops : Array Oper} {pl : List PE} (hD : P.follows .mixedOrders = true → Sound P B D) (hp : planOf P ops = some pl) (h : DrawG P B fn n Q D ops k pl e M) : Run P B fn n Q e (.code (.region i ops true) :: k) M := by
  intro hmix m w tm todo cs hr ht hn hk
  obtain ⟨e', M', h1, h2⟩ := h ⟨fun b hb => (hr.fresh b hb).2, hr.flo⟩
  exact (Run.draw (hD hmix) hp h1 (fun t s hs => by rw [treeOf_get]; exact hs) h2) hmix m w tm todo cs hr ht hn hk
theorem DrawG.nil (h : Run P B fn n Q e k M) : DrawG P B fn n Q D all k [] e M := fun _ => ⟨e, M, rfl, h⟩
theorem DrawG.sync {r : List PE} (h : DrawG P B fn n Q D all k r e M) : DrawG P B fn n Q D all k (.sync :: r) e M := fun hw => by
  obtain ⟨e', M', h1, h2⟩ := h hw
  exact ⟨e', M', h1, h2⟩
theorem DrawG.fl {i : Nat} {o : Oper} {d : Tmp} {s : SV} {r : List PE} (ho : all[i]? = some o) (hv : evalF P all M (treeOf e) o = some s) (hd : o.dst = some d) (hdn : Nat.ble (Nat.succ d) n = true)
    (h : DrawG P B fn n Q D all k r ((d, s) :: e) M) : DrawG P B fn n Q D all k (.fl i :: r) e M := fun hw => by
  obtain ⟨e', M', h1, h2⟩ := h hw
  exact ⟨e', M', dr_fl ho hv hd hdn h1, h2⟩
section
variable {i : Nat} {op : Op} {ty : TypeId} {pos : String} {af : Array Edge} {g : Option (Nat × Bool)} {dd : Tmp} {s : SV} {L : List Nat} {r : List PE}
theorem DrawG.call {f : FuncId} {xs : List SV} (ho : all[i]? = some ⟨some dd, op, ty, pos, af, g⟩) (hw : wantS all (treeOf e) ⟨some dd, op, ty, pos, af, g⟩ = some true) (hx : execO P M (treeOf e) op = .enter f xs M) (hD : D f xs M = some (s, M)) (hdn : Nat.ble (Nat.succ dd) n = true)
    (hs : allStill P all M (treeOf ((dd, s) :: e)) L = true) (h : DrawG P B fn n Q D all k r ((dd, s) :: e) M) : DrawG P B fn n Q D all k (.an i L :: r) e M := fun hwf => by
  obtain ⟨e', M', h1, h2⟩ := h hwf
  exact ⟨e', M', dr_call ho rfl hw hx hD hdn hs h1, h2⟩
theorem DrawG.val (ho : all[i]? = some ⟨some dd, op, ty, pos, af, g⟩) (hw : wantS all (treeOf e) ⟨some dd, op, ty, pos, af, g⟩ = some true) (hx : execO P M (treeOf e) op = .val s M) (hdn : Nat.ble (Nat.succ dd) n = true)
    (hs : allStill P all M (treeOf ((dd, s) :: e)) L = true) (h : DrawG P B fn n Q D all k r ((dd, s) :: e) M) : DrawG P B fn n Q D all k (.an i L :: r) e M := fun hwf => by
  obtain ⟨e', M', h1, h2⟩ := h hwf
  exact ⟨e', M', dr_val ho rfl hw hx hdn hs h1, h2⟩
theorem DrawG.no (ho : all[i]? = some ⟨some dd, op, ty, pos, af, g⟩) (hw : wantS all (treeOf e) ⟨some dd, op, ty, pos, af, g⟩ = some false) (hdn : Nat.ble (Nat.succ dd) n = true)
    (hs : allStill P all M (treeOf ((dd, .tuple []) :: e)) L = true) (h : DrawG P B fn n Q D all k r ((dd, .tuple []) :: e) M) : DrawG P B fn n Q D all k (.an i L :: r) e M := fun hwf => by
  obtain ⟨e', M', h1, h2⟩ := h hwf
  exact ⟨e', M', dr_no ho rfl hw hdn hs h1, h2⟩
theorem DrawG.new {tt : TypeId} {rk : RK} {v : Pos → SV} {c : List SV} (ho : all[i]? = some ⟨some dd, op, ty, pos, af, g⟩) (hw : wantS all (treeOf e) ⟨some dd, op, ty, pos, af, g⟩ = some true) (hx : execO P M (treeOf e) op = .val (v (nextOf M)) (newRowS tt rk M c)) (hdn : Nat.ble (Nat.succ dd) n = true)
    (h : ∀ b M', Own M' b tt rk c → MemLe M M' → M.next.num ≤ b.num → allStill P all M' (treeOf ((dd, v b) :: e)) L = true ∧ DrawG P B fn n Q D all k r ((dd, v b) :: e) M') : DrawG P B fn n Q D all k (.an i L :: r) e M := fun hwf => by
  have hnr : newRowS tt rk M c = ⟨M.t.put (some (.row tt rk c)) M.next, M.next.succ, M.floor⟩ := by cases M; rfl
  rw [hnr] at hx
  obtain ⟨hs, h'⟩ := h (nextOf M) ⟨M.t.put (some (.row tt rk c)) M.next, M.next.succ, M.floor⟩ (by
    rw [nextOf_eq]
    exact ⟨Tree.get_put_same _ _ _, hwf.2, by show M.next.num < M.next.succ.num; rw [Pos.num_succ]; omega⟩) (hwf.memLe_new _) (by rw [nextOf_eq]; exact Nat.le_refl _)
  obtain ⟨e', M', h1, h2⟩ := h' (hwf.new _)
  exact ⟨e', M', dr_val ho rfl hw hx hdn hs h1, h2⟩
end
theorem dr_store {i : Nat} {op : Op} {ty : TypeId} {pos : String} {af : Array Edge} {g : Option (Nat × Bool)} {s : SV} {M' : Mem} {L : List Nat} {r : List PE} {res : Option (Tree SV × Mem)}
    (ho : all[i]? = some ⟨none, op, ty, pos, af, g⟩) (hw : wantS all (treeOf e) ⟨none, op, ty, pos, af, g⟩ = some true) (hx : execO P M (treeOf e) op = .val s M')
    (hs : allStill P all M' (treeOf e) L = true) (h : drawS D P n all r (treeOf e) M' = res) : drawS D P n all (.an i L :: r) (treeOf e) M = res := by
  have hx' : exec P M (treeOf e) ⟨none, op, ty, pos, af, g⟩ = .val s M' := hx
  rw [drawS]
  simp only [ho, hw, hx', putD]
  simp only [hs]
  exact h
/-- A store into a row of the call's own, said of what is given. -/
theorem ex_store {bb : Pos} {off zz : Nat} {s : SV} {tt : TypeId} {rk : RK} {c c' : List SV} (h : ar e x = some (.ptr bb off)) (h' : ar e y = some s) (ho : Own M bb tt rk c) (hz : szOf P t = some zz) (hl : (cellsOf s).length = zz) (hk : frzOK rk off = true) (hle : off + zz ≤ c.length) (h1 : ones (cellsOf s) = true) (hc : c' = c.take off ++ (cellsOf s ++ c.drop (off + zz))) :
    ∃ M', execO P M (treeOf e) (.store t x y) = .val (.tuple []) M' ∧ Own M' bb tt rk c' ∧ RoLe M M' ∧ (∀ b t kk c, b ≠ bb → Own M b t kk c → Own M' b t kk c) ∧ (WF M → WF M') := by
  have hput : putCells M bb off (cellsOf s) = some ⟨M.t.put (some (.row tt rk c')) bb, M.next, M.floor⟩ := by
    unfold putCells
    have ha : above M bb = true := Nat.ble_eq_true_of_le ho.low
    have hb : Nat.ble (Nat.add off zz) c.length = true := Nat.ble_eq_true_of_le hle
    simp only [ho.get, ha, hk, h1, app_eq, tk_eq, dp_eq, len_eq, hl, hc, hb]
    rfl
  refine ⟨⟨M.t.put (some (.row tt rk c')) bb, M.next, M.floor⟩, ?_, ⟨Tree.get_put_same _ _ _, ho.low, ho.lt⟩, ⟨fun b cc hb => ?_, Nat.le_refl _⟩, fun b t kk cc hne hb => ⟨?_, hb.low, hb.lt⟩, fun hwf => ⟨fun b hb => ?_, hwf.2⟩⟩
  · show eStore P M (treeOf e) t x y = _
    unfold eStore
    rw [ar_arg h, ar_arg h']
    show xStore P t (.ptr bb off) s M = _
    unfold xStore
    have hb : Nat.beq (len (cellsOf s)) zz = true := by rw [len_eq, hl]; exact Nat.beq_refl zz
    simp only [hz, hb, hput]
  · obtain ⟨hlt, hb⟩ := ro_get hb
    refine ro_mk hlt ?_
    have hne : bb ≠ b := by
      intro he
      subst he
      rw [ho.get] at hb
      simp at hb
    rcases hb with hb | hb
    · exact .inl (by show Tree.get b (M.t.put _ _) = _; rw [Tree.get_put_other _ _ hne]; exact hb)
    · exact .inr (by show Tree.get b (M.t.put _ _) = _; rw [Tree.get_put_other _ _ hne]; exact hb)
  · show Tree.get b (M.t.put _ _) = _
    rw [Tree.get_put_other _ _ (Ne.symm hne)]
    exact hb.get
  · show Tree.get b (M.t.put _ _) = none
    have hb' : M.next.num ≤ b.num := hb
    rw [Tree.get_put_other _ _ (fun he => by subst he; have := ho.lt; omega)]
    exact hwf.1 b hb'
theorem DrawG.store {i : Nat} {ty : TypeId} {pos : String} {af : Array Edge} {g : Option (Nat × Bool)} {L : List Nat} {r : List PE} {bb : Pos} {off zz : Nat} {s : SV} {tt : TypeId} {rk : RK} {c c' : List SV}
    (hi : all[i]? = some ⟨none, .store t x y, ty, pos, af, g⟩) (hw : wantS all (treeOf e) ⟨none, .store t x y, ty, pos, af, g⟩ = some true) (h : ar e x = some (.ptr bb off)) (h' : ar e y = some s) (ho : Own M bb tt rk c) (hz : szOf P t = some zz) (hl : (cellsOf s).length = zz) (hk : frzOK rk off = true) (hle : off + zz ≤ c.length) (h1 : ones (cellsOf s) = true) (hc : c' = c.take off ++ (cellsOf s ++ c.drop (off + zz)))
    (next : ∀ M', Own M' bb tt rk c' → RoLe M M' → (∀ b t kk c, b ≠ bb → Own M b t kk c → Own M' b t kk c) → allStill P all M' (treeOf e) L = true ∧ DrawG P B fn n Q D all k r e M') : DrawG P B fn n Q D all k (.an i L :: r) e M := fun hwf => by
  obtain ⟨M1, hx, g1, g2, g3, g4⟩ := ex_store (P := P) h h' ho hz hl hk hle h1 hc
  obtain ⟨hs, hd⟩ := next M1 g1 g2 g3
  obtain ⟨e', M', q1, q2⟩ := hd (g4 hwf)
  exact ⟨e', M', dr_store hi hw hx hs q1, q2⟩
theorem DrawG.storeEl {α : Type} {enc : α → List SV} {z : Nat} {l l' : List α} {i j : Nat} {v : α} {bb : Pos} {s : SV} {tt : TypeId} {rk : RK} {L : List Nat} {r : List PE} {ty : TypeId} {pos : String} {af : Array Edge} {g : Option (Nat × Bool)}
    (hi : all[j]? = some ⟨none, .store t x y, ty, pos, af, g⟩) (hw : wantS all (treeOf e) ⟨none, .store t x y, ty, pos, af, g⟩ = some true) (h : ar e x = some (.ptr bb (0 + i * z))) (h' : ar e y = some s) (ho : Own M bb tt rk (l.flatMap enc)) (hl : upd l i v = some l') (hz : szOf P t = some z) (hs : cellsOf s = enc v) (hk : frzOK rk (0 + i * z) = true) (hlen : ∀ a, (enc a).length = z) (h1 : ∀ a, ones (enc a) = true)
    (next : ∀ M', Own M' bb tt rk (l'.flatMap enc) → l'.length = l.length → RoLe M M' → (∀ b t kk c, b ≠ bb → Own M b t kk c → Own M' b t kk c) → allStill P all M' (treeOf e) L = true ∧ DrawG P B fn n Q D all k r e M') : DrawG P B fn n Q D all k (.an j L :: r) e M := by
  obtain ⟨q, hj, hlt, rfl⟩ := upd_some hl
  have hj' : q = i := by omega
  subst hj'
  have hle : (q + 1) * z ≤ l.length * z := Nat.mul_le_mul_right z hlt
  rw [Nat.succ_mul] at hle
  refine DrawG.store (zz := z) (c' := (l.set q v).flatMap enc) hi hw h h' ho hz (by rw [hs, hlen]) hk (by rw [flatm_len hlen]; omega) (by rw [hs]; exact h1 v) (by rw [hs, Nat.zero_add]; exact flat_set hlen l q v hlt) fun M' ho' hM hO => next M' ho' (by simp) hM hO

/- Strings, Booleans, structs. -/
theorem ex_eqlS {p q : List UInt8} (h : ar e x = some (.str p)) (h' : ar e y = some (.str q)) : execO P M (treeOf e) (.binOp .eql t x y u) = .val (.bool (p == q)) M := by
  rw [ex_bin h h']
  show optOut M (strOp .eql p q) = _
  simp [strOp, optOut, beqB_eq]
theorem ex_neqS {p q : List UInt8} (h : ar e x = some (.str p)) (h' : ar e y = some (.str q)) : execO P M (treeOf e) (.binOp .neq t x y u) = .val (.bool (!(p == q))) M := by
  rw [ex_bin h h']
  show optOut M (strOp .neq p q) = _
  simp [strOp, optOut, beqB_eq]
theorem ex_eqlB {p q : Bool} (h : ar e x = some (.bool p)) (h' : ar e y = some (.bool q)) (hk : eqK P t = some .bool) : execO P M (treeOf e) (.binOp .eql t x y u) = .val (.bool (p == q)) M := by
  rw [ex_bin h h']
  show (match eqS P t (.bool p) (.bool q) with | some r => Out.val (.bool r) M | none => .bad) = _
  unfold eqS
  simp only [hk]
  cases p <;> cases q <;> rfl
theorem ex_neqB {p q : Bool} (h : ar e x = some (.bool p)) (h' : ar e y = some (.bool q)) (hk : eqK P t = some .bool) : execO P M (treeOf e) (.binOp .neq t x y u) = .val (.bool (!(p == q))) M := by
  rw [ex_bin h h']
  show (match eqS P t (.bool p) (.bool q) with | some r => Out.val (.bool (Bool.rec true false r)) M | none => .bad) = _
  unfold eqS
  simp only [hk]
  cases p <;> cases q <;> rfl
theorem ex_eqlA {p q : List SV} {r : Bool} (h : ar e x = some (.agg p)) (h' : ar e y = some (.agg q)) (hk : aggEq P t = false) (hq : eqA P 12 t (.agg p) (.agg q) = some r) : execO P M (treeOf e) (.binOp .eql t x y u) = .val (.bool r) M := by
  rw [ex_bin h h']
  simp only [xBin3, xBin2, hk, hq]
theorem ex_neqA {p q : List SV} {r : Bool} (h : ar e x = some (.agg p)) (h' : ar e y = some (.agg q)) (hk : aggEq P t = false) (hq : eqA P 12 t (.agg p) (.agg q) = some r) : execO P M (treeOf e) (.binOp .neq t x y u) = .val (.bool (!r)) M := by
  rw [ex_bin h h']
  simp only [xBin3, xBin2, hk, hq]
  cases r <;> rfl
theorem eqFs_cons {eq : TypeId → SV → SV → Option Bool} {xs ys : List SV} {f : Field} {l : List Field} {p q : SV} {r r' : Bool} (hn : (f.name == "_") = false) (h1 : partS P f.type xs f.offset = some p) (h2 : partS P f.type ys f.offset = some q) (he : eq f.type p q = some r) (hl : eqFs P eq xs ys l = some r') : eqFs P eq xs ys (f :: l) = some (r && r') := by
  unfold eqFs
  simp only [hn, h1, h2, he]
  cases r
  · rfl
  · exact hl
theorem eqFs_nil {eq : TypeId → SV → SV → Option Bool} {xs ys : List SV} : eqFs P eq xs ys [] = some true := rfl
theorem eqA_int {d : Nat} {kk : IntKind} {p q : Int} (h : aggK P t = some .int) : eqA P (d + 1) t (.int kk p) (.int kk q) = some (p == q) := by
  have e1 : kindBeq kk kk = true := by simp [kindBeq]
  unfold eqA
  simp only [h, e1, eqZ_eq]
theorem eqA_str {d : Nat} {p q : List UInt8} (h : aggK P t = some .str) : eqA P (d + 1) t (.str p) (.str q) = some (p == q) := by
  unfold eqA
  simp only [h, beqB_eq]
theorem eqA_bool {d : Nat} {p q : Bool} (h : aggK P t = none) (hk : eqK P t = some .bool) : eqA P (d + 1) t (.bool p) (.bool q) = some (p == q) := by
  unfold eqA
  simp only [h, eqS, hk]
  cases p <;> cases q <;> rfl
theorem eqA_st {d : Nat} {xs ys : List SV} {fs : List Field} {r : Bool} (h : aggK P t = some (.st fs)) (he : eqFs P (eqA P d) xs ys fs = some r) : eqA P (d + 1) t (.agg xs) (.agg ys) = some r := by
  unfold eqA
  simp only [h, he]
theorem part_one {l : List SV} {off : Nat} {s : SV} (h : aggSize P t = some none) (hs : nth l off = some s) : partS P t l off = some s := by
  unfold partS
  simp only [h, hs]

theorem ex_append {α : Type} {z : Nat} {enc : α → List SV} {el : Elt} {av : List Pos} {s s2 : SV} {l l2 l' : List α} (hwf : WF M)
    (h : ar e x = some s) (h' : ar e y = some s2) (ha : App M av el.ty z enc s l) (hz : ∀ a, (enc a).length = z) (hz1 : 1 ≤ z) (ho : ∀ a, ones (enc a) = true) (hx : appT P t u = some el) (hsz : el.size = z)
    (hlz : lenZ el s2 = some l2.length) (hnew : firstS M z l2.length s2 = some (l2.flatMap enc)) (hl : apd el.bytes l l2 = some l') :
    ∃ s' M', execO P M (treeOf e) (.call ⟨.builtin .append, #[x, y], #[t, u]⟩) = .val s' M' ∧ App M' av el.ty z enc s' l' ∧ RoLe M M' ∧ (∀ b t kk c, b ∈ av → Own M b t kk c → Own M' b t kk c) ∧ WF M' := by
  obtain ⟨hl1, hl2, rfl⟩ := apd_some hl
  have hxx : execO P M (treeOf e) (.call ⟨.builtin .append, #[x, y], #[t, u]⟩) = xAppend P t u s s2 M := by
    rw [ex_builtin (l := [s, s2]) (by show ars e [x, y] = _; simp only [ars, h, h'])]
    rfl
  rw [← hsz] at hnew
  obtain ⟨hav0, ha⟩ := ha
  have hnx : M.next.num < M.next.succ.num := by rw [Pos.num_succ]; omega
  rcases ha with ⟨rfl, rfl⟩ | ⟨bb, rfl, hown, hav⟩
  · cases hl0 : l2 with
    | nil =>
      subst hl0
      exact ⟨.nils, M, by rw [hxx]; exact xAppend_nil0 hx hlz hnew, ⟨hav0, .inl ⟨rfl, rfl⟩⟩, ⟨fun _ _ h => h, Nat.le_refl _⟩, fun _ _ _ _ _ h => h, hwf⟩
    | cons a0 r0 =>
      have hlen : l2.length = r0.length + 1 := by rw [hl0]; rfl
      have hnr : newRowS el.ty (.head 0) M (l2.flatMap enc) = ⟨M.t.put (some (.row el.ty (.head 0) (l2.flatMap enc))) M.next, M.next.succ, M.floor⟩ := by cases M; rfl
      have hgr : grow (.head 0) M el l2.length (l2.flatMap enc) = .val (.ope (nextOf M) 0 l2.length el.size) (newRowS el.ty (.head 0) M (l2.flatMap enc)) := by
        unfold grow
        have g1 : Nat.ble l2.length 1073741824 = true := Nat.ble_eq_true_of_le (by simp at hl1; omega)
        have g2 : Nat.ble (Nat.mul (Nat.mul 2 l2.length) el.bytes) 281474976710656 = true := Nat.ble_eq_true_of_le (by simpa using hl2)
        have g3 : Nat.ble 1 el.size = true := Nat.ble_eq_true_of_le (by omega)
        simp only [g1, g2, g3]
      have hM := hwf.memLe_new (.row el.ty (.head 0) (l2.flatMap enc))
      have hx2 : xAppend P t u .nils s2 M = .val (.ope M.next 0 l2.length el.size) ⟨M.t.put (some (.row el.ty (.head 0) (l2.flatMap enc))) M.next, M.next.succ, M.floor⟩ := by
        rw [← hnr, ← nextOf_eq, ← hgr]
        rw [hlen] at hlz hnew ⊢
        exact xAppend_nilS hx hlz hnew
      subst hl0
      refine ⟨_, _, hxx.trans hx2, ⟨fun b' hb' => Nat.lt_trans (hav0 b' hb') hnx, .inr ⟨M.next, ?_, ⟨?_, hwf.2, hnx⟩, ?_⟩⟩, hM.toRo, fun b' t' kk' c' _ h' => hM.own _ _ _ _ h', hwf.new _⟩
      · rw [hsz]; rfl
      · exact Tree.get_put_same _ _ _
      · intro hbv
        have := hav0 _ hbv
        omega
  · have hfirst : firstS M el.size l.length (.ope bb 0 l.length z) = some (l.flatMap enc) := by
      unfold firstS
      have hle : Nat.ble (Nat.add 0 (Nat.mul l.length el.size)) (len (l.flatMap enc)) = true := by
        rw [len_eq, flatm_len hz, hsz]
        exact Nat.ble_eq_true_of_le (by simp)
      have hle' : Nat.ble (Nat.add 0 (l.length * el.size)) (len (l.flatMap enc)) = true := hle
      simp only [hown.row, tk_eq, dp_eq, Nat.mul_eq, List.drop_zero, hle']
      rw [hsz]
      rw [List.take_of_length_le (by rw [flatm_len hz]; exact Nat.le_refl _)]
    have hok : ownK M bb = some (el.ty, .head 0) := by
      unfold ownK
      have ha : above M bb = true := Nat.ble_eq_true_of_le hown.low
      simp only [hown.get, ha]
    cases hl0 : l2 with
    | nil =>
      subst hl0
      exact ⟨.ope bb 0 l.length z, M, by rw [hxx]; exact xAppend_ope0 hx hlz hnew (by rw [hsz]; exact Nat.beq_refl z) hok hfirst, ⟨hav0, .inr ⟨bb, by simp, by simpa using hown, hav⟩⟩, ⟨fun _ _ h => h, Nat.le_refl _⟩, fun _ _ _ _ _ h => h, hwf⟩
    | cons a0 r0 =>
      have hlen : l2.length = r0.length + 1 := by rw [hl0]; rfl
      have hdrop : dropRow M bb = ⟨M.t.put none bb, M.next, M.floor⟩ := by cases M; rfl
      have hgr : grow (shiftK (.head 0) 0) (dropRow M bb) el (Nat.add l.length l2.length) (app (l.flatMap enc) (l2.flatMap enc)) = .val (.ope M.next 0 (l.length + l2.length) el.size) ⟨(M.t.put none bb).put (some (.row el.ty (.head 0) ((l ++ l2).flatMap enc))) M.next, M.next.succ, M.floor⟩ := by
        unfold grow
        have g1 : Nat.ble (Nat.add l.length l2.length) 1073741824 = true := Nat.ble_eq_true_of_le hl1
        have g2 : Nat.ble (Nat.mul (Nat.mul 2 (Nat.add l.length l2.length)) el.bytes) 281474976710656 = true := Nat.ble_eq_true_of_le hl2
        have g3 : Nat.ble 1 el.size = true := Nat.ble_eq_true_of_le (by omega)
        simp only [g1, g2, g3, hdrop, app_eq, List.flatMap_append]
        rfl
      have hx2 : xAppend P t u (.ope bb 0 l.length z) s2 M = .val (.ope M.next 0 (l.length + l2.length) el.size) ⟨(M.t.put none bb).put (some (.row el.ty (.head 0) ((l ++ l2).flatMap enc))) M.next, M.next.succ, M.floor⟩ := by
        have f2 : Nat.beq el.ty el.ty = true := Nat.beq_refl _
        have f3 : frzOK (.head 0) (Nat.add 0 (Nat.mul l.length el.size)) = true := rfl
        rw [← hgr]
        rw [hlen] at hlz hnew ⊢
        exact xAppend_opeS hx hlz hnew (by rw [hsz]; exact Nat.beq_refl z) hok hfirst (ones_enc ho l2) f2 f3
      have hfresh : ∀ b x, M.t.get b = some x → M.next ≠ b := by
        intro b x h he
        have := hwf.fresh h
        rw [← he] at this
        omega
      have hget : ∀ b x, b ≠ bb → M.t.get b = some x → Tree.get b ((M.t.put none bb).put (some (.row el.ty (.head 0) ((l ++ l2).flatMap enc))) M.next) = some x := by
        intro b x hne h
        rw [Tree.get_put_other _ _ (hfresh b x h), Tree.get_put_other _ _ (Ne.symm hne)]
        exact h
      subst hl0
      refine ⟨_, _, hxx.trans hx2, ⟨fun b' hb' => Nat.lt_trans (hav0 b' hb') hnx, .inr ⟨M.next, ?_, ⟨Tree.get_put_same _ _ _, hwf.2, hnx⟩, ?_⟩⟩, ⟨fun b c hb => ?_, Nat.le_of_lt hnx⟩, fun b' t' kk' c' hb' h' => ⟨hget b' _ ?_ h'.get, h'.low, Nat.lt_trans h'.lt hnx⟩, ⟨fun b hb => ?_, ?_⟩⟩
      · rw [hsz, List.length_append]
      · intro hbv
        have := hav0 _ hbv
        omega
      · obtain ⟨hlt, hb⟩ := ro_get hb
        refine ro_mk (Nat.lt_trans hlt hnx) ?_
        have hne : b ≠ bb := by
          intro he
          subst he
          rw [hown.get] at hb
          simp at hb
        rcases hb with hb | hb
        · exact .inl (hget b _ hne hb)
        · exact .inr (hget b _ hne hb)
      · intro he
        subst he
        exact hav hb'
      · have hb' : M.next.succ.num ≤ b.num := hb
        rw [Pos.num_succ] at hb'
        show Tree.get b (((M.t.put none bb).put _ M.next)) = none
        rw [Tree.get_put_other _ _ (fun he => by subst he; omega), Tree.get_put_other _ _ (fun he => by subst he; have := hown.lt; omega)]
        exact hwf.1 b (by omega)
      · show M.floor ≤ M.next.succ.num
        have := hwf.2
        omega
theorem DrawG.append {α : Type} {z : Nat} {enc : α → List SV} {el : Elt} {av : List Pos} {s s2 : SV} {l l2 l' : List α} {i : Nat} {dd : Tmp} {ty : TypeId} {pos : String} {af : Array Edge} {g : Option (Nat × Bool)} {L : List Nat} {r : List PE}
    (hi : all[i]? = some ⟨some dd, .call ⟨.builtin .append, #[x, y], #[t, u]⟩, ty, pos, af, g⟩) (hw : wantS all (treeOf e) ⟨some dd, .call ⟨.builtin .append, #[x, y], #[t, u]⟩, ty, pos, af, g⟩ = some true) (hdn : Nat.ble (Nat.succ dd) n = true)
    (h : ar e x = some s) (h' : ar e y = some s2) (ha : App M av el.ty z enc s l) (hz : ∀ a, (enc a).length = z) (hz1 : 1 ≤ z) (ho : ∀ a, ones (enc a) = true) (hx : appT P t u = some el) (hsz : el.size = z)
    (hlz : lenZ el s2 = some l2.length) (hnew : firstS M z l2.length s2 = some (l2.flatMap enc)) (hl : apd el.bytes l l2 = some l')
    (next : ∀ s' M', App M' av el.ty z enc s' l' → RoLe M M' → (∀ b t kk c, b ∈ av → Own M b t kk c → Own M' b t kk c) → allStill P all M' (treeOf ((dd, s') :: e)) L = true ∧ DrawG P B fn n Q D all k r ((dd, s') :: e) M') :
    DrawG P B fn n Q D all k (.an i L :: r) e M := fun hwf => by
  obtain ⟨s', M1, hxx, g1, g2, g3, g4⟩ := ex_append (P := P) hwf h h' ha hz hz1 ho hx hsz hlz hnew hl
  obtain ⟨hs, hd⟩ := next s' M1 g1 g2 g3
  obtain ⟨e', M', q1, q2⟩ := hd g4
  exact ⟨e', M', dr_val hi rfl hw hxx hdn hs q1, q2⟩

section
variable {α : Type} {z : Nat} {R : List SV → α → Prop} {f : Rd} {s : SV} {l l' : List α} {lo hi : Int} {k0 k1 : IntKind}
theorem xs_subH (hs : Slc f z R s l) (hl : sub l 0 hi = some l') (hk : slK P t = some (.sl z)) : ∃ s', xSlice P t s none (some (.int k0 hi)) none M = .val s' M ∧ Slc f z R s' l' := by
  obtain ⟨p, q, hp, rfl, hpq, hq, rfl⟩ := sub_some hl
  exact xSlice_sub hs hpq hq (.inl ⟨rfl, by omega⟩) (.inr ⟨k0, rfl⟩) hk
theorem xs_subL (hs : Slc f z R s l) (hl : sub l lo l.length = some l') (hk : slK P t = some (.sl z)) : ∃ s', xSlice P t s (some (.int k0 lo)) none none M = .val s' M ∧ Slc f z R s' l' := by
  obtain ⟨p, q, rfl, hq', hpq, hq, rfl⟩ := sub_some hl
  exact xSlice_sub hs hpq hq (.inr ⟨k0, rfl⟩) (.inl ⟨rfl, by omega⟩) hk
theorem xs_subB (hs : Slc f z R s l) (hl : sub l lo hi = some l') (hk : slK P t = some (.sl z)) : ∃ s', xSlice P t s (some (.int k0 lo)) (some (.int k1 hi)) none M = .val s' M ∧ Slc f z R s' l' := by
  obtain ⟨p, q, rfl, rfl, hpq, hq, rfl⟩ := sub_some hl
  exact xSlice_sub hs hpq hq (.inr ⟨k0, rfl⟩) (.inr ⟨k1, rfl⟩) hk
theorem ex_slSH {i v : SV} {M' : Mem} (h : ar e x = some s) (h' : ar e y = some i) (hx : xSlice P t s none (some i) none M = .val v M') : execO P M (treeOf e) (.slice t x none (some y) none) = .val v M' := by
  show eSlice P M (treeOf e) t x none (some y) none = _
  unfold eSlice
  rw [ar_arg h, argO_some h' M]
  exact hx
theorem ex_slSL {i v : SV} {M' : Mem} (h : ar e x = some s) (h' : ar e y = some i) (hx : xSlice P t s (some i) none none M = .val v M') : execO P M (treeOf e) (.slice t x (some y) none none) = .val v M' := by
  show eSlice P M (treeOf e) t x (some y) none none = _
  unfold eSlice
  rw [ar_arg h, argO_some h' M]
  exact hx
theorem ex_slSB {i j v : SV} {M' : Mem} {y' : Operand} (h : ar e x = some s) (h' : ar e y = some i) (h'' : ar e y' = some j) (hx : xSlice P t s (some i) (some j) none M = .val v M') : execO P M (treeOf e) (.slice t x (some y) (some y') none) = .val v M' := by
  show eSlice P M (treeOf e) t x (some y) (some y') none = _
  unfold eSlice
  rw [ar_arg h, argO_some h' M, argO_some h'' M]
  exact hx
end

theorem slc_self {α : Type} {f : Rd} {z : Nat} {R : List SV → α → Prop} {s : SV} {l : List α} (h : Slc f z R s l) : selfB s = true := by
  rcases h with ⟨rfl, _⟩ | ⟨b, off, c, ⟨cap, _, rfl⟩ | rfl, _⟩ <;> rfl
theorem app_self {α : Type} {av : List Pos} {tt : TypeId} {z : Nat} {enc : α → List SV} {s : SV} {l : List α} (h : App M av tt z enc s l) : selfB s = true := by
  rcases h.2 with ⟨rfl, _⟩ | ⟨b, rfl, _⟩ <;> rfl
theorem self_nil : selfB.selfs [] = true := rfl
theorem self_cons {s : SV} {l : List SV} (h : selfB s = true) (h' : selfB.selfs l = true) : selfB.selfs (s :: l) = true := by
  simp only [selfB.selfs, h, h', Bool.and_self]
theorem self_agg {l : List SV} (h : selfB.selfs l = true) : selfB (.agg l) = true := h
theorem self_tuple {l : List SV} (h : selfB.selfs l = true) : selfB (.tuple l) = true := h
end
end Go.Ev

/- Arguments that are slices: rows that are only read. -/
namespace Go.Ev
open Go.RowKit
variable {P : Program}

abbrev ARow := Option (Pl × List SV)
def mapA (l : List ARow) : Map := fun b => match l[b.num - 1]? with
  | some (some x) => some x.1
  | _ => none
noncomputable def treeA : Nat → List ARow → Tree SObj
  | _, [] => .leaf
  | i, none :: l => treeA (i + 1) l
  | i, some x :: l => Tree.put (some (.ro x.2)) (Pos.ofNat i) (treeA (i + 1) l)
theorem treeA_get (b : Pos) : ∀ (l : List ARow) (i : Nat), (treeA i l).get b = if i < b.num then (match l[b.num - (i + 1)]? with
  | some (some x) => some (.ro x.2)
  | _ => none) else none
  | [], i => by rw [treeA, Tree.get_leaf]; simp
  | none :: l, i => by
    rw [treeA, treeA_get b l (i + 1)]
    by_cases h : i < b.num
    · rw [if_pos h]
      by_cases h1 : i + 1 < b.num
      · rw [if_pos h1, show b.num - (i + 1) = (b.num - (i + 1 + 1)) + 1 by omega, List.getElem?_cons_succ]
      · rw [if_neg h1, show b.num - (i + 1) = 0 by omega]; rfl
    · rw [if_neg h, if_neg (by omega)]
  | some x :: l, i => by
    rw [treeA, Tree.get_put, treeA_get b l (i + 1)]
    by_cases e : Pos.ofNat i = b
    · have hn : b.num = i + 1 := by rw [← e, Pos.num_ofNat]
      rw [if_pos e, if_pos (by omega), show b.num - (i + 1) = 0 by omega]; rfl
    · rw [if_neg e]
      by_cases h : i < b.num
      · have hne : b.num ≠ i + 1 := by
          intro hn
          exact e (Pos.num_inj (by rw [Pos.num_ofNat, hn]))
        rw [if_pos h, if_pos (by omega), show b.num - (i + 1) = (b.num - (i + 1 + 1)) + 1 by omega, List.getElem?_cons_succ]
      · rw [if_neg h, if_neg (by omega)]

noncomputable def memA (l : List ARow) : Mem := ⟨treeA 0 l, Pos.ofNat l.length, l.length + 1⟩
theorem memA_get {l : List ARow} {b : Pos} {o : SObj} (h : (memA l).t.get b = some o) : ∃ x, l[b.num - 1]? = some (some x) ∧ o = .ro x.2 := by
  have h' : (treeA 0 l).get b = some o := h
  rw [treeA_get, if_pos (by have := b.num_pos; omega), Nat.zero_add] at h'
  split at h'
  · rename_i x hx
    exact ⟨x, hx, (Option.some.inj h').symm⟩
  · simp at h'
theorem mapA_get {l : List ARow} {b : Pos} {p : Pl} (h : mapA l b = some p) : ∃ x, l[b.num - 1]? = some (some x) ∧ p = x.1 := by
  unfold mapA at h
  split at h
  · rename_i x hx
    exact ⟨x, hx, (Option.some.inj h).symm⟩
  · simp at h
theorem mapA_at {l : List ARow} {j : Nat} {x : Pl × List SV} (h : l[j]? = some (some x)) : mapA l (Pos.ofNat j) = some x.1 := by
  unfold mapA
  rw [Pos.num_ofNat, Nat.add_sub_cancel, h]
theorem memA_ro {l : List ARow} {j : Nat} {x : Pl × List SV} (h : l[j]? = some (some x)) : ro (memA l) (Pos.ofNat j) = some x.2 := by
  have hj : j < l.length := (List.getElem?_eq_some_iff.1 h).1
  refine ro_mk ?_ (.inl ?_)
  · show (Pos.ofNat j).num < (Pos.ofNat l.length).num
    rw [Pos.num_ofNat, Pos.num_ofNat]; omega
  · show (treeA 0 l).get (Pos.ofNat j) = _
    rw [treeA_get, Pos.num_ofNat, if_pos (by omega), show j + 1 - (0 + 1) = j by omega, h]

theorem memA_rel {W : World} {l : List ARow} (h : ∀ (j : Nat) (x : Pl × List SV), l[j]? = some (some x) → x.1.block < W.heap.size ∧ ∀ m, RowRel m x.1 none .lost x.2 W.heap[x.1.block]?) : MRel W.heap.size (mapA l) (memA l) W := by
  refine ⟨fun b o p hb hp => ?_, fun b b' o o' p p' hb hb' how _ _ _ => ?_, fun b hb => ?_, fun b p hp => ?_, fun b o p hb ho _ => ?_, Nat.le_refl _, fun b c hb => ?_, ?_⟩
  · obtain ⟨x, hx, rfl⟩ := memA_get hb
    obtain ⟨y, hy, rfl⟩ := mapA_get hp
    rw [hx] at hy
    simp only [Option.some.injEq] at hy
    subst hy
    exact (h _ _ hx).2 _
  · obtain ⟨x, _, rfl⟩ := memA_get hb
    obtain ⟨y, _, rfl⟩ := memA_get hb'
    rcases how with h | h <;> simp [SObj.own] at h
  · have hb' : (Pos.ofNat l.length).num ≤ b.num := hb
    rw [Pos.num_ofNat] at hb'
    constructor
    · cases hm : mapA l b with
      | none => rfl
      | some p =>
        obtain ⟨x, hx, _⟩ := mapA_get hm
        have := (List.getElem?_eq_some_iff.1 hx).1
        omega
    · cases hm : (memA l).t.get b with
      | none => rfl
      | some o =>
        obtain ⟨x, hx, _⟩ := memA_get hm
        have := (List.getElem?_eq_some_iff.1 hx).1
        omega
  · obtain ⟨x, hx, rfl⟩ := mapA_get hp
    exact (h _ _ hx).1
  · obtain ⟨x, _, rfl⟩ := memA_get hb
    simp [SObj.own] at ho
  · obtain ⟨x, _, hx⟩ := memA_get hb
    simp at hx
  · show l.length + 1 ≤ (Pos.ofNat l.length).num
    rw [Pos.num_ofNat]; exact Nat.le_refl _

/-- A slice argument, as a value of the small machine. -/
noncomputable def argS (r : ARow) (j len cap : Nat) : SV := match r with
  | none => .nils
  | some _ => .slice (Pos.ofNat j) 0 len cap

/-- An argument that is a slice of elements that hold no places. -/
structure FlatArg {α : Type} (W : World) (z : Nat) (enc : α → List SV) (v : Value) (l : List α) (r : ARow) (cap : Nat) : Prop where
  row : ∀ x, r = some x → x.1.block < W.heap.size ∧ ∀ m, RowRel m x.1 none .lost x.2 W.heap[x.1.block]?
  val : ∀ (m : Map) (j : Nat), (∀ x, r = some x → m (Pos.ofNat j) = some x.1) → conc m (argS r j l.length cap) = some v
  slc : ∀ (f : Rd) (j : Nat), (∀ x, r = some x → f (Pos.ofNat j) = some x.2) → Slc f z (FlatR enc) (argS r j l.length cap) l
  len : l.length ≤ maxLen

theorem rowAt_off {fits : TypeId → Bool} {e : TypeId} {count off n : Nat} : ∀ {d : Nat}, rowAt P fits d e count off n = true → off ≤ count * P.cellsOf e
  | 0, h => by simp [rowAt] at h
  | d + 1, h => by
    unfold rowAt at h
    simp only at h
    split at h
    · simp at h
    · rename_i hs
      have hdm := Nat.div_add_mod off (P.cellsOf e)
      have hlt := Nat.mod_lt off (Nat.pos_of_ne_zero hs)
      rw [Bool.or_eq_true] at h
      rcases h with h | h
      · simp only [Bool.and_eq_true, beq_iff_eq, decide_eq_true_eq] at h
        have := Nat.mul_le_mul_right (P.cellsOf e) (show off / P.cellsOf e ≤ count by omega)
        rw [Nat.mul_comm] at this
        omega
      · simp only [Bool.and_eq_true, decide_eq_true_eq] at h
        have := Nat.mul_le_mul_right (P.cellsOf e) (show off / P.cellsOf e + 1 ≤ count by omega)
        rw [Nat.add_mul, Nat.one_mul, Nat.mul_comm] at this
        omega
theorem liesAt_off {e : TypeId} {count off : Nat} : ∀ {d : Nat} {u : TypeId} {n : Nat}, liesAt P d e count off u n = true → off ≤ count * P.cellsOf e
  | 0, _, _, h => by simp [liesAt] at h
  | d + 1, u, n, h => by
    unfold liesAt at h
    rw [Bool.or_eq_true] at h
    rcases h with h | h
    · exact rowAt_off h
    · split at h
      · exact liesAt_off h
      · simp at h

theorem concs_app {m : Map} : ∀ {a b : List SV} {x y : List Value}, concs m a = some x → concs m b = some y → concs m (a ++ b) = some (x ++ y)
  | [], b, x, y, h, h' => by
    rw [concs_nil] at h
    cases h
    exact h'
  | s :: a, b, x, y, h, h' => by
    obtain ⟨v, r, h1, h2, rfl⟩ := concs_cons_inv h
    exact concs_cons h1 (concs_app h2 h')
theorem concs_blocks {m : Map} {L : List Value} {z off : Nat} {g : Nat → List SV} : ∀ {n : Nat}, (∀ i, i < n → concs m (g i) = some ((L.drop (off + i * z)).take z)) → concs m ((List.range n).flatMap g) = some ((L.drop off).take (n * z))
  | 0, _ => by simp [concs_nil]
  | n + 1, h => by
    rw [List.range_succ, List.flatMap_append, Nat.succ_mul, List.take_add, List.drop_drop]
    refine concs_app (concs_blocks fun i hi => h i (by omega)) ?_
    simp only [List.flatMap_cons, List.flatMap_nil, List.append_nil]
    exact h n (by omega)

theorem arg_slice {α : Type} {H : Type} {henc : TypeId × Value → H} {W : World} {base : Nat} {held : Bool} {z : Nat} {enc : α → List SV} (hz : ∀ a, (enc a).length = z) {t e : TypeId} (hc : P.cellsOf e = z) (hin : Inhabited α)
    (ht : P.underlying t = some (.slice e)) {v : Value} (hok : Cell.okWide P W .any base t v) {fuel : Nat} {x : DataW H × List MemPlace} (h : DataW.trod henc P W 0 (fun _ => true) held fuel t [v] = some x)
    (hread : ∀ n cs x, DataW.trod henc P W 0 (fun _ => true) held n e cs = some x → ∃ a : α, ∀ m, concs m (enc a) = some cs) :
    ∃ l r cap, FlatArg W z enc v (l : List α) r cap := by
  rcases Deep.open_slice ht h with ⟨hcs, _⟩ | ⟨a, len, cap, mm, n, D, Pl', hcs, _, hl, hm, hmm, _, hel⟩
  · simp only [List.cons.injEq, and_true] at hcs
    subst hcs
    exact ⟨[], none, 0, ⟨fun x hx => by simp at hx, fun m j _ => rfl, fun f j _ => .inl ⟨rfl, rfl⟩, Nat.zero_le _⟩⟩
  · simp only [List.cons.injEq, and_true] at hcs
    subst hcs
    simp only [Cell.okWide, ht, Cell.ok] at hok
    obtain ⟨_, _, _, hsp, row, cells, hsh, hlies⟩ := hok
    rw [if_pos rfl] at hmm
    subst hmm
    obtain ⟨ab, ao, asp⟩ := a
    simp only at hsp hsh hlies
    subst hsp
    unfold World.shape? at hsh
    split at hsh
    · rename_i c e' fz hobj
      simp only [Option.some.injEq, Prod.mk.injEq] at hsh
      obtain ⟨rfl, rfl⟩ := hsh
      have hoff : ao ≤ c.size := Nat.le_trans (liesAt_off hlies) (Nat.div_mul_le_self _ _)
      have hlt : ab < W.heap.size := by
        apply Classical.byContradiction
        intro hn
        rw [Array.getElem?_eq_none (by omega)] at hobj
        simp at hobj
      obtain ⟨A, hA⟩ := Deep.choose_lt (α := α) (p := fun i a => ∀ m, concs m (enc a) = some ((c.toList.drop (ao + i * z)).take z)) (n := len) (fun i hi => by
        obtain ⟨cs', hcells, htr⟩ := hel i (by omega)
        obtain ⟨a, ha⟩ := hread _ _ _ htr
        refine ⟨a, fun m => ?_⟩
        rw [ha m]
        congr 1
        rw [hc] at hcells
        obtain ⟨_, hlen, hat⟩ := World.cells?_some hcells
        apply List.ext_getElem?
        intro j
        by_cases hj : j < z
        · have := hat j hj
          rw [← this, Deep.add_add]
          have hadd : (Addr.mk ab ao none).add (i * z + j) = ⟨ab, ao + (i * z + j), none⟩ := by
            unfold Addr.add
            split
            · rename_i h0; rw [h0]; rfl
            · rfl
          rw [hadd]
          simp only [World.cell?, hobj, Option.isSome_none]
          rw [List.getElem?_take_of_lt hj, List.getElem?_drop, Array.getElem?_toList, Nat.add_assoc]
          rfl
        · rw [List.getElem?_eq_none (by omega), List.getElem?_eq_none (by rw [List.length_take]; omega)])
      refine ⟨(List.range len).map A, some (⟨ab, ao, c.size⟩, ((List.range len).map A).flatMap enc), mm, ⟨?_, ?_, ?_, ?_⟩⟩
      · rintro x hx
        simp only [Option.some.injEq] at hx
        subst hx
        refine ⟨hlt, fun m => ⟨e', fz, c.toList.take ao, (c.toList.drop ao).take (len * z), (c.toList.drop ao).drop (len * z), ?_, trivial, ?_, ?_, ?_, fun t h => by simp at h⟩⟩
        · rw [List.take_append_drop, List.take_append_drop]
          exact hobj
        · simp; omega
        · simp only [List.length_take, List.length_drop, Array.length_toList]; omega
        · rw [List.flatMap_map]
          exact concs_blocks fun i hi => hA i hi m
      · intro m j hj
        have := hj _ rfl
        show (m (Pos.ofNat j)).map _ = _
        rw [this]
        simp
      · intro f j hj
        have := hj _ rfl
        refine .inr ⟨Pos.ofNat j, 0, _, .inl ⟨mm, by simpa using hl, rfl⟩, this, ?_, ?_⟩
        · rw [flatm_len hz]; omega
        · intro i a ha
          rw [Nat.zero_add]
          exact flat_at hz _ _ _ ha
      · simp; omega
    · simp at hsh

section
variable {H : Type} {enc : TypeId × Value → H} {w w' : World} {base : Nat} {spare : Nat → Bool} {held : Bool}
theorem trodAll_carry : ∀ {ts : List TypeId} {vs : List Value} {ds : List (DataW H)} {ps : List MemPlace}, DataW.TrodAll enc P w base spare held ts vs ds ps → (∀ p ∈ ps, w.sameAt w' p) → DataW.TrodAll enc P w' base spare held ts vs ds ps
  | [], [], [], _, h, _ => h
  | _ :: _, _ :: _, _ :: _, _, ⟨p, q, ⟨n, h1⟩, h2, e⟩, hs => ⟨p, q, ⟨n, DataW.trod_carry n _ _ _ h1 (fun x hx => hs x (by rw [e]; exact List.mem_append_left _ hx))⟩, trodAll_carry h2 (fun x hx => hs x (by rw [e]; exact List.mem_append_right _ hx)), e⟩
/-- What a call that only makes new blocks has read before, reads so again. -/
theorem trodAll_below {T : TypeId → Prop} (K : Kids P T) (hz : ∀ t e, T t → P.underlying t = some (.slice e) → 0 < P.cellsOf e) (hb : Below w.heap.size w w') {ts : List TypeId} {vs : List Value} {ds : List (DataW H)} {ps : List MemPlace}
    (hT : ∀ t ∈ ts, T t) (h : DataW.TrodAll enc P w 0 (fun _ => true) true ts vs ds ps) : DataW.TrodAll enc P w' 0 (fun b => decide (b < w.heap.size)) true ts vs ds ps :=
  DataW.TrodAll.respare K hz hT (trodAll_carry h fun p hp => hb.same (h.lt p hp)) (fun p hp => by simpa using h.lt p hp)
end
end Go.Ev

