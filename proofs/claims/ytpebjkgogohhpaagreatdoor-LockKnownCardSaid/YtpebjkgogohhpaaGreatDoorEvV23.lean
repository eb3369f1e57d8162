/- A plan is carried out by the model, in whatever order. -/
import Derived.Test.YtpebjkgogohhpaaGreatDoorEvV22
namespace Go.Ev
open Go.RowKit
variable {P : Program} {D : Known}

section
variable {B : Nat} {m : Map} {M : Mem} {w : World} {σ : Tree SV} {tm : Array Value}

theorem sameDst_ne {a b : Option Tmp} (h : sameDst a b = false) {d : Nat} (h1 : a = some d) : b ≠ some d := by
  intro h2
  subst h1 h2
  simp [sameDst] at h

theorem putD_inv {σ σ' : Tree SV} {n : Nat} {d : Option Tmp} {s : SV} (h : putD σ n d s = some σ') :
    (∀ t, d ≠ some t → σ'.get (Pos.ofNat t) = σ.get (Pos.ofNat t)) ∧ (∀ t, d = some t → t < n ∧ σ'.get (Pos.ofNat t) = some s) := by
  unfold putD at h
  split at h
  · simp only [Option.some.injEq] at h; subst h
    exact ⟨fun _ _ => rfl, fun t e => by simp at e⟩
  · rename_i d
    split at h
    · rename_i hb
      simp only [Option.some.injEq] at h; subst h
      refine ⟨fun t ht => Tree.get_put_other _ _ (fun e => ht (by rw [Pos.ofNat_inj e])), fun t ht => ?_⟩
      cases ht
      exact ⟨Nat.lt_of_succ_le (Nat.le_of_ble_eq_true hb), Tree.get_put_same _ _ _⟩
    · simp at h

theorem waits_agree {all : Array Oper} {σ' : Tree SV} {q : Nat} (h : Waits P all M σ q) (hr : ∀ o, all[q]? = some o → Agree (readsOf all o) σ' σ) (hd : ∀ o d, all[q]? = some o → o.dst = some d → σ'.get (Pos.ofNat d) = σ.get (Pos.ofNat d)) : Waits P all M σ' q := by
  obtain ⟨o, s, ho, hev, hdst⟩ := h
  refine ⟨o, s, ho, ?_, fun d hod => by rw [hd o d ho hod]; exact hdst d hod⟩
  have hag := hr o ho
  unfold evalF at hev ⊢
  rw [wantS_agree hag, exec_agree (fun t ht => hag t (by simp only [readsOf, List.mem_append]; exact .inr ht))]
  exact hev

theorem agree_put {all : Array Oper} {o o' : Oper} {σ' : Tree SV} {n : Nat} {s : SV} (h : putD σ n o'.dst s = some σ') (hr : inter (readsOf all o) o'.dst = false) : Agree (readsOf all o) σ' σ := by
  intro t ht
  refine (putD_inv h).1 t fun e => ?_
  rw [e] at hr
  rw [inter_mem.2 ht] at hr
  simp at hr

theorem draw_runs (hD : Sound P B D) {all : Array Oper} {n : Nat} (cx : Cx) (todo : List Item) (fs : List Frame) :
    ∀ (plan : List PE) {E Q S rest : List Nat} {m : Map} {M : Mem} {w : World} {σ : Tree SV} {tm : Array Value} {σ' : Tree SV} {M' : Mem},
      drawS D P n all plan σ M = some (σ', M') → validP P all (masks all.toList) plan E Q = true → Mid P B all n m M w σ tm S rest E Q →
      ∃ m' w' tm', Steps P (lone (mkF cx tm (.inRegion all rest :: todo)) fs w) (lone (mkF cx tm' todo) fs w') ∧ Stepped B m M w m' M' w' ∧ TRel m' σ' tm' ∧ tm'.size = n := by
  intro plan
  induction plan with
  | nil =>
    intro E Q S rest m M w σ tm σ' M' hrun hval h
    simp only [drawS, Option.some.injEq, Prod.mk.injEq] at hrun
    obtain ⟨rfl, rfl⟩ := hrun
    simp only [validP, List.all_eq_true, List.mem_range] at hval
    have hall : ∀ i, i < all.size → i ∈ E := fun i hi => hasN_iff.1 (hval i hi)
    obtain ⟨m1, w1, tm1, S1, rest1, hs, h1, hst, hE⟩ := h.drain (fun j o ho hj => absurd (hall j (Array.getElem?_eq_some_iff.1 ho).1) hj) cx todo fs
    have ht := h1.topo
    cases ht with
    | cons hn ho hp _ =>
      have hj := (Array.getElem?_eq_some_iff.1 ho).1
      exact absurd (hE _ (hall _ hj) hj) hn
    | nil _ =>
      refine ⟨m1, w1, tm1, hs.trans (.one (stepR_region_end (P := P) (b := mkF cx tm1 []) (a := ⟨tm1, cx.ds⟩))), hst, fun t s hts => ?_, h1.size⟩
      exact h1.rel t s hts fun i hi hiS o ho => absurd (hE i hi (Array.getElem?_eq_some_iff.1 ho).1) hiS
  | cons pe plan ih =>
    intro E Q S rest m M w σ tm σ' M' hrun hval h
    cases pe with
    | sync =>
      simp only [drawS] at hrun
      simp only [validP, Bool.and_eq_true, List.all_eq_true, List.mem_range, Bool.or_eq_true] at hval
      obtain ⟨hv, hval⟩ := hval
      obtain ⟨m1, w1, tm1, S1, rest1, hs, h1, hst, hE⟩ := h.drain (fun j o ho hj q hq => by
        have hj' := (Array.getElem?_eq_some_iff.1 ho).1
        rcases hv j hj' with hin | hb
        · exact absurd (hasN_iff.1 hin) hj
        · exact befB_before hj' (hb q hq)) cx todo fs
      have hmid : Mid P B all n m1 M w1 σ tm1 S1 rest1 E [] := by
        refine ⟨h1.mem, h1.size, h1.topo, h1.closed, h1.sub, ?_, h1.pd, h1.rel, by simp, by simp, h1.dn⟩
        intro i hi hiS
        obtain ⟨o, _, ho, _⟩ := h1.pd i hi hiS
        exact absurd (hE i hi (Array.getElem?_eq_some_iff.1 ho).1) hiS
      obtain ⟨m2, w2, tm2, hs2, hst2, ht2, hn2⟩ := ih hrun hval hmid
      exact ⟨m2, w2, tm2, hs.trans hs2, hst.trans hst2, ht2, hn2⟩
    | fl i =>
      simp only [drawS] at hrun
      simp only [validP] at hval
      cases ho : all[i]? with
      | none => rw [ho] at hrun; simp at hrun
      | some o =>
        rw [ho] at hrun hval
        simp only at hrun hval
        cases hev : evalF P all M σ o with
        | none => rw [hev] at hrun; simp at hrun
        | some s =>
          rw [hev] at hrun
          simp only at hrun
          cases hput : putD σ n o.dst s with
          | none => rw [hput] at hrun; simp at hrun
          | some σ1 =>
            rw [hput] at hrun
            simp only at hrun
            simp only [Bool.and_eq_true, Bool.not_eq_true', List.all_eq_true] at hval
            obtain ⟨⟨⟨⟨hiE, hfl⟩, hself⟩, hQ⟩, hval⟩ := hval
            have hiE' : i ∉ E := fun e => by rw [hasN_iff.2 e] at hiE; simp at hiE
            have hQ' : ∀ q ∈ Q, ∃ p, all[q]? = some p ∧ (inter (readsOf all o) p.dst = true → befB (masks all.toList) q i = true) ∧ inter (readsOf all p) o.dst = false ∧ sameDst o.dst p.dst = false := by
              intro q hq
              have := hQ q hq
              split at this
              · simp at this
              · rename_i p hp
                simp only [Bool.and_eq_true, Bool.or_eq_true, Bool.not_eq_true'] at this
                refine ⟨p, hp, fun hin => ?_, this.1.2, this.2⟩
                rcases this.1.1 with h1 | h1
                · rw [hin] at h1; simp at h1
                · exact h1
            obtain ⟨hp1, hp2⟩ := putD_inv hput
            refine ih hrun hval (E := i :: E) (Q := i :: Q) ⟨h.mem, h.size, h.topo, h.closed, fun x hx => List.mem_cons_of_mem _ (h.sub x hx), ?_, ?_, ?_, ?_, ?_, ?_⟩
            · intro x hx hxS
              rcases List.mem_cons.1 hx with rfl | hx
              · simp
              · exact List.mem_cons_of_mem _ (h.pend x hx hxS)
            · intro x hx hxS
              rcases List.mem_cons.1 hx with rfl | hx
              · refine ⟨o, s, ho, ?_, fun d hd => (hp2 d hd).2⟩
                have hag := agree_put (all := all) (o := o) hput hself
                unfold evalF at hev ⊢
                rw [wantS_agree hag, exec_agree (fun t ht => hag t (by simp only [readsOf, List.mem_append]; exact .inr ht))]
                exact hev
              · obtain ⟨p, hp, h1, h2, h3⟩ := hQ' x (h.pend x hx hxS)
                refine waits_agree (h.pd x hx hxS) (fun o' ho' => ?_) (fun o' d ho' hd => ?_)
                · rw [hp] at ho'; cases ho'; exact agree_put hput h2
                · rw [hp] at ho'; cases ho'
                  exact hp1 d fun e => sameDst_ne h3 e hd
            · intro t x hx hcond
              have hne : o.dst ≠ some t := hcond i (by simp) (fun e => hiE' (h.sub i e)) o ho
              rw [hp1 t hne] at hx
              exact h.rel t x hx fun y hy hyS o' ho' => hcond y (List.mem_cons_of_mem _ hy) hyS o' ho'
            · intro p hp q hq hpq o1 o2 h1 h2 hin
              rcases List.mem_cons.1 hp with rfl | hp2 <;> rcases List.mem_cons.1 hq with rfl | hq2
              · exact absurd rfl hpq
              · obtain ⟨p', hp', g1, g2, g3⟩ := hQ' q hq2
                rw [ho] at h1; cases h1
                rw [hp'] at h2; cases h2
                exact befB_before (Array.getElem?_eq_some_iff.1 ho).1 (g1 hin)
              · obtain ⟨p', hp', g1, g2, g3⟩ := hQ' p hp2
                rw [hp'] at h1; cases h1
                rw [ho] at h2; cases h2
                rw [g2] at hin; simp at hin
              · exact h.qr p hp2 q hq2 hpq o1 o2 h1 h2 hin
            · intro q hq o' ho'
              rcases List.mem_cons.1 hq with rfl | hq
              · rw [ho] at ho'; cases ho'; exact ⟨hfl, hself⟩
              · exact h.qf q hq o' ho'
            · intro x hx o' d ho' hd
              rcases List.mem_cons.1 hx with rfl | hx
              · rw [ho] at ho'; cases ho'; exact (hp2 d hd).1
              · exact h.dn x hx o' d ho' hd
    | an a L =>
      simp only [drawS] at hrun
      simp only [validP] at hval
      cases ho : all[a]? with
      | none => rw [ho] at hrun; simp at hrun
      | some o =>
        rw [ho] at hrun hval
        simp only at hrun hval
        simp only [Bool.and_eq_true, Bool.not_eq_true', List.all_eq_true, List.mem_range, Bool.or_eq_true] at hval
        obtain ⟨⟨⟨⟨haE, hready⟩, hQL⟩, hL⟩, hval⟩ := hval
        have haE' : a ∉ E := fun e => by rw [hasN_iff.2 e] at haE; simp at haE
        have hal := (Array.getElem?_eq_some_iff.1 ho).1
        have hL' : ∀ q ∈ L, q ∈ Q ∧ ∃ p, all[q]? = some p ∧ inter (readsOf all o) p.dst = false ∧ sameDst o.dst p.dst = false := by
          intro q hq
          have := hL q hq
          refine ⟨hasN_iff.1 this.1, ?_⟩
          have := this.2
          split at this
          · simp at this
          · rename_i p hp
            simp only [Bool.and_eq_true, Bool.not_eq_true'] at this
            exact ⟨p, hp, this.1, this.2⟩
        obtain ⟨m1, w1, tm1, S1, rest1, hs, h1, hst⟩ := h.upto hal haE' (fun j p hp hj hja => by
          have hjl := (Array.getElem?_eq_some_iff.1 hp).1
          rcases hready j hjl with (hin | heq) | hk
          · exact absurd (hasN_iff.1 hin) hj
          · exact absurd (Nat.eq_of_beq_eq_true heq) hja
          · rw [hp] at hk
            simp only [List.any_eq_true, Bool.not_eq_true'] at hk
            obtain ⟨k, hk1, hk2⟩ := hk
            exact ⟨k, hk1, fun e => by rw [hasN_iff.2 e] at hk2; simp at hk2⟩) cx todo fs
        have htopo := h1.topo
        cases htopo with
        | cons hn ho2 hp ht =>
        rename_i o2
        rw [ho] at ho2; cases ho2
        have hwaitL : ∀ i ∈ E, i ∉ S1 → i ∈ L := by
          intro i hi hiS
          rcases hQL i (h1.pend i hi hiS) with hb | hin
          · exact absurd (before_mem ho hp h1.closed (befB_before hal hb)) hiS
          · exact hasN_iff.1 hin
        obtain ⟨σr, htr, hwr, her⟩ := h1.part ho (fun i hi hiS o' ho' => by
          obtain ⟨_, p, hp', g1, _⟩ := hL' i (hwaitL i hi hiS)
          rw [ho'] at hp'; cases hp'; exact g1)
        -- what the operation gives, in both
        have key : ∀ (s : SV) (M2 : Mem) (σ2 : Tree SV), putD σ n o.dst s = some σ2 → allStill P all M2 σ2 L = true → drawS D P n all plan σ2 M2 = some (σ', M') →
            (∃ m2 w2 v, Stepped B m1 M w1 m2 M2 w2 ∧ conc m2 s = some v ∧ ∀ tm', (∀ ds, Act.put ⟨tm1, ds⟩ o.dst v = ⟨tm', ds⟩) → Steps P (lone (mkF cx tm1 (.inRegion all (a :: rest1) :: todo)) fs w1) (lone (mkF cx tm' (.inRegion all rest1 :: todo)) fs w2)) →
            ∃ m' w' tm', Steps P (lone (mkF cx tm (.inRegion all rest :: todo)) fs w) (lone (mkF cx tm' todo) fs w') ∧ Stepped B m M w m' M' w' ∧ TRel m' σ' tm' ∧ tm'.size = n := by
          rintro s M2 σ2 hput hstill hrun2 ⟨m2, w2, v, hst2, hv, hsteps⟩
          obtain ⟨hp1, hp2⟩ := putD_inv hput
          obtain ⟨tm', hpt, hsz, hne, heq⟩ := put_any (tm := tm1) o.dst v
          have hext := hst2.ext h1.mem
          have hmid : Mid P B all n m2 M2 w2 σ2 tm' (a :: S1) rest1 (a :: E) L := by
            refine ⟨hst2.rel, hsz.trans h1.size, ht, ?_, ?_, ?_, ?_, ?_, ?_, ?_, ?_⟩
            · intro i hi k hk
              rcases List.mem_cons.1 hi with rfl | hi
              · exact List.mem_cons_of_mem _ (before_mem ho hp h1.closed hk)
              · exact List.mem_cons_of_mem _ (h1.closed i hi k hk)
            · intro i hi
              rcases List.mem_cons.1 hi with rfl | hi
              · simp
              · exact List.mem_cons_of_mem _ (h1.sub i hi)
            · intro i hi hiS
              rcases List.mem_cons.1 hi with rfl | hi
              · exact absurd (by simp) hiS
              · exact hwaitL i hi fun e => hiS (List.mem_cons_of_mem _ e)
            · intro i hi hiS
              rcases List.mem_cons.1 hi with rfl | hi
              · exact absurd (by simp) hiS
              · exact allStill_waits hstill i (hwaitL i hi fun e => hiS (List.mem_cons_of_mem _ e))
            · intro t x hx hcond
              by_cases hd : o.dst = some t
              · rw [(hp2 t hd).2] at hx
                cases hx
                exact ⟨v, heq t hd (by rw [h1.size]; exact (hp2 t hd).1), hv⟩
              · rw [hp1 t hd] at hx
                obtain ⟨u, g1, g2⟩ := h1.rel t x hx fun i hi hiS o' ho' => hcond i (List.mem_cons_of_mem _ hi) (fun e => (List.mem_cons.1 e).elim (fun e => haE' (e ▸ hi)) hiS) o' ho'
                exact ⟨u, by rw [hne t hd]; exact g1, conc_ext hext _ _ g2⟩
            · intro p hp' q hq hpq o1 o2 g1 g2 hin
              exact h1.qr p (hL' p hp').1 q (hL' q hq).1 hpq o1 o2 g1 g2 hin
            · intro q hq o' ho'
              exact h1.qf q (hL' q hq).1 o' ho'
            · intro x hx o' d ho' hd
              rcases List.mem_cons.1 hx with rfl | hx
              · rw [ho] at ho'; cases ho'; exact (hp2 d hd).1
              · exact h1.dn x hx o' d ho' hd
          obtain ⟨m3, w3, tm3, hs3, hst3, ht3, hn3⟩ := ih hrun2 hval hmid
          exact ⟨m3, w3, tm3, hs.trans ((hsteps tm' hpt).trans hs3), (hst.trans hst2).trans hst3, ht3, hn3⟩
        -- the three ways
        cases hw : wantS all σ o with
        | none => rw [hw] at hrun; simp at hrun
        | some b =>
          rw [hw] at hrun
          have hw' := wantS_rel (hwr ▸ hw) htr
          cases b with
          | false =>
            simp only at hrun
            split at hrun
            · simp at hrun
            · rename_i σ2 hput
              split at hrun
              · simp at hrun
              · rename_i hstill
                refine key _ _ _ hput hstill hrun ⟨m1, w1, undef, .refl h1.mem, by simp [conc, concs, undef], fun tm' hpt => .one ?_⟩
                have hst' := stepR_op_skip (P := P) (b := mkF cx tm1 []) (a := ⟨tm1, cx.ds⟩) (k := todo) (cs := fs) (w := w1) (ops := all) (i := a) (rest := rest1) (by simp [ho, hw'])
                rw [ho, Option.bind_some, hpt] at hst'
                exact hst'
          | true =>
            simp only at hrun
            have hd := exec_does (P := P) h1.mem htr o
            rw [← her] at hd
            cases hex : exec P M σ o with
            | bad => rw [hex] at hrun; simp at hrun
            | round l as M2 => rw [hex] at hrun; simp at hrun
            | val s M2 =>
              rw [hex] at hrun hd
              simp only at hrun
              obtain ⟨x, m2, w2, hxr, hx, hst2⟩ := hd
              obtain ⟨v, hv, hstep⟩ := val_step (P := P) (cx := cx) (rest := rest1) (todo := todo) (fs := fs) ho hw' hxr hx (exec_nd (P := P) (M := M) (σ := σ) (by rw [hex]; simp))
              split at hrun
              · simp at hrun
              · rename_i σ2 hput
                split at hrun
                · simp at hrun
                · rename_i hstill
                  exact key _ _ _ hput hstill hrun ⟨m2, w2, v, hst2, hv, fun tm' hpt => .one (hstep tm' hpt)⟩
            | enter f as M2 =>
              rw [hex] at hrun hd
              simp only at hrun
              obtain ⟨vs, m2, w2, hxr, has, hst2⟩ := hd
              cases hDf : D f as M2 with
              | none => rw [hDf] at hrun; simp at hrun
              | some r =>
                obtain ⟨s, M3⟩ := r
                rw [hDf] at hrun
                simp only at hrun
                split at hrun
                · simp at hrun
                · rename_i σ2 hput
                  split at hrun
                  · simp at hrun
                  · rename_i hstill
                    obtain ⟨m3, w3, v, hst3, hv, hsteps⟩ := hD f as M2 s M3 hDf m2 w2 vs hst2.rel has (mkF cx tm1 (.inRegion all (a :: rest1) :: todo)) fs
                    refine key _ _ _ hput hstill hrun ⟨m3, w3, v, hst2.trans hst3, hv, fun tm' hpt => ?_⟩
                    have hg := stepGR_op (P := P) (b := mkF cx tm1 []) (a := ⟨tm1, cx.ds⟩) (k := todo) (cs := fs) (w := w1) (ops := all) (i := a) (rest := rest1) ho hw'
                    rw [Oper.semAt_eq _ _ _ (exec_nd (P := P) (M := M) (σ := σ) (by rw [hex]; simp)), den_eval] at hg
                    have henter : step P (lone (mkF cx tm1 (.inRegion all (a :: rest1) :: todo)) fs w1) = .next (lone (Frame.enter P f vs .normal) (mkF cx tm1 (.inRegion all (a :: rest1) :: todo) :: fs) w2) := by
                      refine step_lone_go ?_
                      exact (congrArg GStep.bare hg).trans (by simp [stepG.apply, hxr, Frame.atR, mkF])
                    have hfin : (mkF cx tm1 (.inRegion all (a :: rest1) :: todo)).finish v = mkF cx tm' (.inRegion all rest1 :: todo) := by
                      have := Frame.finish_atR (mkF cx tm1 []) ⟨tm1, cx.ds⟩ all a rest1 todo v
                      rw [ho, Option.bind_some, hpt] at this
                      exact this
                    rw [hfin] at hsteps
                    exact .head henter hsteps

end
end Go.Ev
