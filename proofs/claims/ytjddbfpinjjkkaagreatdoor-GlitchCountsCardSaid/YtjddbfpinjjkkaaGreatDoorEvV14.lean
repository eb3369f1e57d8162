/- A part of the small machine. -/
import Derived.Test.YtjddbfpinjjkkaaGreatDoorEvV13
set_option linter.unusedVariables false
namespace Go.Ev
open Go.RowKit
variable {P : Program}
section
variable {B : Nat} {m : Map} {M : Mem} {w : World}
inductive EqK where
 | bool | ptr | slice | map | func | iface
noncomputable def eqK (P : Program) (t : TypeId) : Option EqK :=
 match P.underlying t with
 | some .bool => some .bool
 | some (.pointer _) => some .ptr
 | some (.slice _) => some .slice
 | some (.map _ _) => some .map
 | some (.func _ _ _) => some .func
 | some (.interface _) => some .iface
 | _ => none
noncomputable def eqS (P : Program) (t : TypeId) (a b : SV) : Option Bool :=
 match eqK P t with
 | some .bool => match a, b with
  | .bool x, .bool y => some (Bool.rec (Bool.rec true false y) (Bool.rec false true y) x)
  | _, _ => none
 | some .ptr => match a, b with
  | .nilp, .nilp => some true
  | .nilp, .ptr _ _ => some false
  | .ptr _ _, .nilp => some false
  | _, _ => none
 | some .slice => match a, b with
  | .nils, .nils => some true
  | .nils, .slice _ _ _ _ => some false
  | .nils, .ope _ _ _ _ => some false
  | .nils, .opz _ _ _ _ => some false
  | .nils, .rawz _ => some false
  | .slice _ _ _ _, .nils => some false
  | .ope _ _ _ _, .nils => some false
  | .opz _ _ _ _, .nils => some false
  | .rawz _, .nils => some false
  | _, _ => none
 | some .map => match a, b with
  | .nilm, .nilm => some true
  | .nilm, .map _ => some false
  | .map _, .nilm => some false
  | _, _ => none
 | some .func => match a, b with
  | .nilf, .nilf => some true
  | .nilf, .fn _ _ _ => some false
  | .fn _ _ _, .nilf => some false
  | _, _ => none
 | some .iface => match a, b with
  | .nili, .iface _ _ => some false
  | .iface _ _, .nili => some false
  | _, _ => none
 | none => none
set_option maxHeartbeats 1000000 in
theorem zo9 {t : TypeId} {a b : SV} {r : Bool} (h : eqS P t a b = some r) {v u : Value} (ha : conc m a = some v) (hb : conc m b = some u) (w : World) (n : Nat) :
    (Op.equalIn (n + 1) t v u).run P w = .ok r w := by
  unfold eqS at h
  have hk : ∀ {k}, eqK P t = some k → ∃ d, P.underlying t = some d ∧ (match d with | .bool => k = .bool | .pointer _ => k = .ptr | .slice _ => k = .slice | .map _ _ => k = .map | .func _ _ _ => k = .func | .interface _ => k = .iface | _ => False) := by
    intro k hk
    unfold eqK at hk
    split at hk <;> first | (simp only [Option.some.injEq] at hk; rename_i hd; exact ⟨_, hd, hk.symm⟩) | (simp at hk)
  split at h
  next he =>
    obtain ⟨d, hd, hd'⟩ := hk he
    split at h
    next x y =>
      simp only [Option.some.injEq] at h; subst h
      have e1 : v = .bool x := by simp [conc] at ha; exact ha.symm
      have e2 : u = .bool y := by simp [conc] at hb; exact hb.symm
      subst e1 e2
      cases d <;> simp at hd'
      simp only [Op.equalIn, Sem.run_bind, run_underlying hd, Result.andThen_ok, Sem.run_pure]
      cases x <;> cases y <;> rfl
    next => simp at h
  next he =>
    obtain ⟨d, hd, hd'⟩ := hk he
    cases d <;> simp at hd'
    split at h
    next => simp only [Option.some.injEq] at h; subst h; have e1 : v = .pointer none := by simp [conc] at ha; exact ha.symm
            have e2 : u = .pointer none := by simp [conc] at hb; exact hb.symm
            subst e1 e2; simp [Op.equalIn, Sem.run_bind, run_underlying hd]
    next => simp only [Option.some.injEq] at h; subst h; have e1 : v = .pointer none := by simp [conc] at ha; exact ha.symm
            obtain ⟨p, _, rfl⟩ := z91 hb
            subst e1; simp [Op.equalIn, Sem.run_bind, run_underlying hd]
    next => simp only [Option.some.injEq] at h; subst h; have e1 : u = .pointer none := by simp [conc] at hb; exact hb.symm
            obtain ⟨p, _, rfl⟩ := z91 ha
            subst e1; simp [Op.equalIn, Sem.run_bind, run_underlying hd]
    next => simp at h
  next he =>
    obtain ⟨d, hd, hd'⟩ := hk he
    cases d <;> simp at hd'
    split at h
    next => simp only [Option.some.injEq] at h; subst h; have e1 : v = .slice none 0 0 := by simp [conc] at ha; exact ha.symm
            have e2 : u = .slice none 0 0 := by simp [conc] at hb; exact hb.symm
            subst e1 e2; simp [Op.equalIn, Sem.run_bind, run_underlying hd]
    next => simp only [Option.some.injEq] at h; subst h; have e1 : v = .slice none 0 0 := by simp [conc] at ha; exact ha.symm
            obtain ⟨p, _, rfl⟩ := z8m hb
            subst e1; simp [Op.equalIn, Sem.run_bind, run_underlying hd]
    next => simp only [Option.some.injEq] at h; subst h; have e1 : v = .slice none 0 0 := by simp [conc] at ha; exact ha.symm
            obtain ⟨p, _, _, _, rfl⟩ := z9d hb
            subst e1; simp [Op.equalIn, Sem.run_bind, run_underlying hd]
    next => simp only [Option.some.injEq] at h; subst h; have e1 : v = .slice none 0 0 := by simp [conc] at ha; exact ha.symm
            obtain ⟨p, _, _, _, rfl⟩ := zax hb
            subst e1; simp [Op.equalIn, Sem.run_bind, run_underlying hd]
    next => simp only [Option.some.injEq] at h; subst h; have e1 : v = .slice none 0 0 := by simp [conc] at ha; exact ha.symm
            simp [conc] at hb
            subst e1 hb; simp [Op.equalIn, Sem.run_bind, run_underlying hd]
    next => simp only [Option.some.injEq] at h; subst h; have e1 : u = .slice none 0 0 := by simp [conc] at hb; exact hb.symm
            obtain ⟨p, _, rfl⟩ := z8m ha
            subst e1; simp [Op.equalIn, Sem.run_bind, run_underlying hd]
    next => simp only [Option.some.injEq] at h; subst h; have e1 : u = .slice none 0 0 := by simp [conc] at hb; exact hb.symm
            obtain ⟨p, _, _, _, rfl⟩ := z9d ha
            subst e1; simp [Op.equalIn, Sem.run_bind, run_underlying hd]
    next => simp only [Option.some.injEq] at h; subst h; have e1 : u = .slice none 0 0 := by simp [conc] at hb; exact hb.symm
            obtain ⟨p, _, _, _, rfl⟩ := zax ha
            subst e1; simp [Op.equalIn, Sem.run_bind, run_underlying hd]
    next => simp only [Option.some.injEq] at h; subst h; have e1 : u = .slice none 0 0 := by simp [conc] at hb; exact hb.symm
            simp [conc] at ha
            subst e1 ha; simp [Op.equalIn, Sem.run_bind, run_underlying hd]
    next => simp at h
  next he =>
    obtain ⟨d, hd, hd'⟩ := hk he
    cases d <;> simp at hd'
    have cm : ∀ {x v}, conc m (.map x) = some v → ∃ k, v = .map (some k) := by
      intro x v h; simp only [conc, Option.map_eq_some_iff] at h; obtain ⟨p, _, rfl⟩ := h; exact ⟨_, rfl⟩
    split at h
    next => simp only [Option.some.injEq] at h; subst h; have e1 : v = .map none := by simp [conc] at ha; exact ha.symm
            have e2 : u = .map none := by simp [conc] at hb; exact hb.symm
            subst e1 e2; simp [Op.equalIn, Sem.run_bind, run_underlying hd]
    next => simp only [Option.some.injEq] at h; subst h; have e1 : v = .map none := by simp [conc] at ha; exact ha.symm
            obtain ⟨p, rfl⟩ := cm hb
            subst e1; simp [Op.equalIn, Sem.run_bind, run_underlying hd]
    next => simp only [Option.some.injEq] at h; subst h; have e1 : u = .map none := by simp [conc] at hb; exact hb.symm
            obtain ⟨p, rfl⟩ := cm ha
            subst e1; simp [Op.equalIn, Sem.run_bind, run_underlying hd]
    next => simp at h
  next he =>
    obtain ⟨d, hd, hd'⟩ := hk he
    cases d <;> simp at hd'
    split at h
    next => simp only [Option.some.injEq] at h; subst h; have e1 : v = .nilFunc := by simp [conc] at ha; exact ha.symm
            have e2 : u = .nilFunc := by simp [conc] at hb; exact hb.symm
            subst e1 e2; simp [Op.equalIn, Sem.run_bind, run_underlying hd]
    next => simp only [Option.some.injEq] at h; subst h; have e1 : v = .nilFunc := by simp [conc] at ha; exact ha.symm
            obtain ⟨_, _, _, _, rfl⟩ := ze4 hb
            subst e1; simp [Op.equalIn, Sem.run_bind, run_underlying hd]
    next => simp only [Option.some.injEq] at h; subst h; have e1 : u = .nilFunc := by simp [conc] at hb; exact hb.symm
            obtain ⟨_, _, _, _, rfl⟩ := ze4 ha
            subst e1; simp [Op.equalIn, Sem.run_bind, run_underlying hd]
    next => simp at h
  next he =>
    obtain ⟨d, hd, hd'⟩ := hk he
    cases d <;> simp at hd'
    have ci : ∀ {t x v}, conc m (.iface t x) = some v → ∃ k, v = .iface t k := by
      intro t x v h; simp only [conc, Option.map_eq_some_iff] at h; obtain ⟨p, _, rfl⟩ := h; exact ⟨_, rfl⟩
    split at h
    next => simp only [Option.some.injEq] at h; subst h; have e1 : v = .nilIface := by simp [conc] at ha; exact ha.symm
            obtain ⟨p, rfl⟩ := ci hb
            subst e1; simp [Op.equalIn, Sem.run_bind, run_underlying hd]
    next => simp only [Option.some.injEq] at h; subst h; have e1 : u = .nilIface := by simp [conc] at hb; exact hb.symm
            obtain ⟨p, rfl⟩ := ci ha
            subst e1; simp [Op.equalIn, Sem.run_bind, run_underlying hd]
    next => simp at h
  next => simp at h
theorem zoa {t : TypeId} {a b : SV} {r : Bool} (h : eqS P t a b = some r) {v u : Value} (ha : conc m a = some v) (hb : conc m b = some u) (w : World) :
  (Op.equal t v u).run P w = .ok r w := zo9 h ha hb w 9999
noncomputable def z8r (M : Mem) (x : Option SV) : Out := match x with
 | some s => .val s M
 | none => .bad
def cst : Operand → Bool
 | .const _ => true
 | _ => false
noncomputable def zru (P : Program) (op : BinOp) (t : TypeId) (c : Bool) (a b : SV) (M : Mem) : Out :=
 match a, b with
 | .nili, .nili => match c, eqK P t, op with
  | true, some .iface, .eql => .val (.bool true) M
  | true, some .iface, .neq => .val (.bool false) M
  | _, _, _ => .bad
 | .int k x, .int k' y => match op with
  | .shl => z8r M (zci .shl k x y)
  | .shr => z8r M (zci .shr k x y)
  | op => match za8 k k' with
   | true => z8r M (zd2 op k x y)
   | false => .bad
 | .str x, .str y => z8r M (zsm op x y)
 | a, b => match op with
  | .eql => match eqS P t a b with
   | some r => .val (.bool r) M
   | none => .bad
  | .neq => match eqS P t a b with
   | some r => .val (.bool (Bool.rec true false r)) M
   | none => .bad
  | _ => .bad
theorem zcu {a b : IntKind} (h : za8 a b = true) : a = b := by simpa [za8] using h
theorem za9 (hr : MRel B m M w) {q : Sem Value} {x : Option SV} (h : ∀ s, x = some s → ∃ v, q.run P w = .ok v w ∧ conc m s = some v) :
  z8f P B m M w (do Pure.pure (Next.value (← q))) (z8r M x) := by
 cases x with
 | none => trivial
 | some s =>
  obtain ⟨v, h1, h2⟩ := h s rfl
  exact z8f.pure hr h1 h2
theorem zbp {op : BinOp} {t : TypeId} {x y : Operand} {v u : Value} (h1 : ¬ (v = .nilIface ∧ u = .nilIface)) (h2 : ∀ a b, ¬ (v = .agg a ∧ u = .agg b)) (w : World) : (eqGuard op t x y v u).run P w = .ok () w := by
 cases op <;> first | rfl | skip
 all_goals
  simp only [eqGuard, Bool.not_true, Bool.false_eq_true, if_false]
  split
  ·exact absurd ⟨rfl, rfl⟩ h1
  ·exact absurd ⟨rfl, rfl⟩ (h2 _ _)
  ·rfl
theorem zjj {op : BinOp} {t : TypeId} {x y : Operand} (hc : (cst x || cst y) = true) (w : World) : (eqGuard op t x y .nilIface .nilIface).run P w = .ok () w := by
 cases op <;> first | rfl | skip
 all_goals
  cases x <;> cases y <;> first | rfl | exact absurd hc (by simp [cst])
def zrg (v u : Value) : Prop := (∀ k n k' n', ¬ (v = .int k n ∧ u = .int k' n')) ∧ (∀ x y, ¬ (v = .string x ∧ u = .string y)) ∧ (∀ k n k' n', ¬ (v = .float k n ∧ u = .float k' n')) ∧ (∀ k n p k' n' p', ¬ (v = .complex k n p ∧ u = .complex k' n' p'))
theorem zfe {t : TypeId} {v u : Value} (h : zrg v u) : binOp .eql t v u = (do Pure.pure (.bool (← Op.equal t v u))) := by
 obtain ⟨g3, g4, g5, g6⟩ := h
 cases v <;> cases u <;> first | rfl | exact absurd ⟨rfl, rfl⟩ (g3 _ _ _ _) | exact absurd ⟨rfl, rfl⟩ (g4 _ _) | exact absurd ⟨rfl, rfl⟩ (g5 _ _ _ _) | exact absurd ⟨rfl, rfl⟩ (g6 _ _ _ _ _ _)
theorem zff {t : TypeId} {v u : Value} (h : zrg v u) : binOp .neq t v u = (do Pure.pure (.bool (!(← Op.equal t v u)))) := by
 obtain ⟨g3, g4, g5, g6⟩ := h
 cases v <;> cases u <;> first | rfl | exact absurd ⟨rfl, rfl⟩ (g3 _ _ _ _) | exact absurd ⟨rfl, rfl⟩ (g4 _ _) | exact absurd ⟨rfl, rfl⟩ (g5 _ _ _ _) | exact absurd ⟨rfl, rfl⟩ (g6 _ _ _ _ _ _)
theorem zpt (hr : MRel B m M w) {op : BinOp} {t : TypeId} {x y : Operand} {a b : SV} {v u : Value} (ha : conc m a = some v) (hb : conc m b = some u) :
  z8f P B m M w (do Pure.pure (Next.value (← (do eqGuard op t x y v u; binOp op t v u)))) (zru P op t (cst x || cst y) a b M) := by
 have reduce : ∀ {q : Sem Value} {o : Out}, (eqGuard op t x y v u).run P w = .ok () w → z8f P B m M w (do Pure.pure (Next.value (← q))) o → z8f P B m M w (do Pure.pure (Next.value (← (do eqGuard op t x y v u; q)))) o := by
  intro q o hg hd
  cases o with
  | bad => trivial
  | val s M' =>
   obtain ⟨n, m', w', h1, h2, h3⟩ := hd
   refine ⟨n, m', w', ?_, h2, h3⟩
   simp only [Sem.run_bind, hg, Result.andThen_ok] at h1 ⊢
   exact h1
  | enter f as M' =>
   obtain ⟨n, m', w', h1, h2, h3⟩ := hd
   refine ⟨n, m', w', ?_, h2, h3⟩
   simp only [Sem.run_bind, hg, Result.andThen_ok] at h1 ⊢
   exact h1
  | round l as M' =>
   obtain ⟨p, R, vs, m', w', h1, h2, h3, h4, h5⟩ := hd
   refine ⟨p, R, vs, m', w', h1, h2, h3, ?_, h5⟩
   simp only [Sem.run_bind, hg, Result.andThen_ok] at h4 ⊢
   exact h4
 unfold zru
 split
 next =>
  have e1 : v = .nilIface := by simp [conc] at ha; exact ha.symm
  have e2 : u = .nilIface := by simp [conc] at hb; exact hb.symm
  subst e1 e2
  have hd : ∀ {k}, eqK P t = some k → k = .iface → ∃ ms, P.underlying t = some (.interface ms) := by
   intro k hk hi
   subst hi
   unfold eqK at hk
   split at hk <;> first | (simp at hk; done) | (rename_i h; exact ⟨_, h⟩)
  split
  next hc hk =>
   obtain ⟨ms, hd⟩ := hd hk rfl
   refine reduce (zjj hc w) ?_
   refine z8f.pure hr (v := .bool true) ?_ rfl
   have : (Op.equal t .nilIface .nilIface).run P w = .ok true w := by
    show (Op.equalIn (9999 + 1) t .nilIface .nilIface).run P w = .ok true w
    generalize 9999 = n
    simp [Op.equalIn, Sem.run_bind, run_underlying hd]
   rw [zfe ⟨by simp, by simp, by simp, by simp⟩]
   simp only [Sem.run_bind, this, Result.andThen_ok, Sem.run_pure]
  next hc hk =>
   obtain ⟨ms, hd⟩ := hd hk rfl
   refine reduce (zjj hc w) ?_
   refine z8f.pure hr (v := .bool false) ?_ rfl
   have : (Op.equal t .nilIface .nilIface).run P w = .ok true w := by
    show (Op.equalIn (9999 + 1) t .nilIface .nilIface).run P w = .ok true w
    generalize 9999 = n
    simp [Op.equalIn, Sem.run_bind, run_underlying hd]
   rw [zff ⟨by simp, by simp, by simp, by simp⟩]
   simp only [Sem.run_bind, this, Result.andThen_ok, Sem.run_pure]
   rfl
  next => trivial
 next k i k' j =>
  obtain rfl := conc_int ha
  obtain rfl := conc_int hb
  refine reduce (zbp (by simp) (by simp) w) ?_
  split
  next => exact za9 hr fun s h => zgi h t m w
  next => exact za9 hr fun s h => zgi h t m w
  next =>
   split
   next hk =>
    obtain rfl := zcu hk
    exact za9 hr fun s h => zou h t m w
   next => trivial
 next i j =>
  obtain rfl := z8y ha
  obtain rfl := z8y hb
  refine reduce (zbp (by simp) (by simp) w) ?_
  exact za9 hr fun s h => zpm h t m w
 next _ hni hns =>
  have eqs : ∀ {r}, eqS P t a b = some r → ¬ (v = .nilIface ∧ u = .nilIface) ∧ (∀ x y, ¬ (v = .agg x ∧ u = .agg y)) ∧ (∀ k n k' n', ¬ (v = .int k n ∧ u = .int k' n')) ∧ (∀ x y, ¬ (v = .string x ∧ u = .string y)) ∧ (∀ k n k' n', ¬ (v = .float k n ∧ u = .float k' n')) ∧ (∀ k n p k' n' p', ¬ (v = .complex k n p ∧ u = .complex k' n' p')) := by
   intro r h
   have hrun := zo9 h ha hb w 0
   unfold eqS at h
   split at h <;> (try (simp at h; done)) <;> (split at h <;> (try (simp at h; done))) <;>
    (simp only [conc, Option.some.injEq, Option.map_eq_some_iff, Option.bind_eq_some_iff] at ha hb) <;>
    (first | (subst ha) | (obtain ⟨_, _, rfl⟩ := ha) | (obtain ⟨_, _, _, _, rfl⟩ := ha) | (obtain ⟨_, _, ha⟩ := ha; split at ha <;> simp at ha; subst ha)) <;>
    (first | (subst hb) | (obtain ⟨_, _, rfl⟩ := hb) | (obtain ⟨_, _, _, _, rfl⟩ := hb) | (obtain ⟨_, _, hb⟩ := hb; split at hb <;> simp at hb; subst hb)) <;> simp
  split
  next =>
   split
   next r h =>
    obtain ⟨g1, g2, g3, g4, g5, g6⟩ := eqs h
    refine reduce (zbp g1 g2 w) ?_
    refine z8f.pure hr (v := .bool r) ?_ rfl
    have he := zoa (P := P) h ha hb w
    rw [zfe ⟨g3, g4, g5, g6⟩]
    simp only [Sem.run_bind, he, Result.andThen_ok, Sem.run_pure]
   next => trivial
  next =>
   split
   next r h =>
    obtain ⟨g1, g2, g3, g4, g5, g6⟩ := eqs h
    refine reduce (zbp g1 g2 w) ?_
    refine z8f.pure hr (v := .bool !r) ?_ (by cases r <;> rfl)
    have he := zoa (P := P) h ha hb w
    rw [zff ⟨g3, g4, g5, g6⟩]
    simp only [Sem.run_bind, he, Result.andThen_ok, Sem.run_pure]
   next => trivial
  next => trivial
end
end Go.Ev
