/- A part of the small machine. -/
import Derived.Test.YtjddbfpinjjkkaaGreatDoorEvW8
import Derived.Lib.LaidTab
import Derived.Lib.LaidU8
set_option linter.unusedVariables false
namespace Go.Ev
open Go.RowKit
variable {P : Program}
noncomputable def intCells (k : IntKind) (zs : List Int) : List SV := List.rec [] (fun z _ ih => SV.int k z :: ih) zs
theorem zdl (m : Map) (k : IntKind) : ∀ zs : List Int, concs m (intCells k zs) = some (zs.map fun z => Value.int k z)
 | [] => rfl
 | z :: zs => by
  show concs m (.int k z :: intCells k zs) = _
  exact concs_cons rfl (zdl m k zs)
theorem zfs {w : World} : ∀ {l : List (String × DataW Unit)} {ps : List MemPlace}, DataW.LaidVars P w l ps → ∀ n d, (n, d) ∈ l →
  ∃ g t cs fuel p, P.globalNamed n = some g ∧ (P.globals[g]?).map (·.type) = some t ∧ w.var? P n = some cs ∧ DataW.trod (fun _ => ()) P w 0 (fun _ => true) false fuel t cs.toList = some (d, p) ∧ ∀ x ∈ MemPlace.row ⟨g, 0, none⟩ cs.size, x ∈ ps
 | [], _, _, _, _, hm => by cases hm
 | (n', d') :: r, ps, h, n, d, hm => by
  obtain ⟨g, t, cs, fuel, p, q, h1, h2, h3, h4, h5, rfl⟩ := h
  rcases List.mem_cons.1 hm with e | e
  ·cases e
   exact ⟨g, t, cs, fuel, p, h1, h2, h3, h4, fun x hx => by simp [hx]⟩
  ·obtain ⟨g, t, cs, fuel, p, k1, k2, k3, k4, k5⟩ := zfs h5 n d e
   exact ⟨g, t, cs, fuel, p, k1, k2, k3, k4, fun x hx => by simp [k5 x hx]⟩
theorem laid_tab {w : World} {l : List (String × DataW Unit)} (h : laidMet P l w) {name : String} {k : IntKind} {zs : List Int} (hm : (name, Lib.tabData k zs) ∈ l) {g : Nat} {t e : TypeId} {n : Nat}
  (hg : P.globalNamed name = some g) (hty : (P.globals[g]?).map (·.type) = some t) (ht : P.underlying t = some (.array n e)) (he : P.underlying e = some (.int k)) (hce : P.cellsOf e = 1) (hct : P.cellsOf t = n) (hz : zs ≠ []) :
  ∃ e' vs, w.heap[g]? = some (.cells vs.toArray e' (0, 0)) ∧ concs (fun _ => none) (intCells k zs) = some vs := by
 obtain ⟨ps, hv, _, hcell⟩ := h
 obtain ⟨g', t', cs, fuel, p, hg', ht', hvar, hd, hps⟩ := zfs hv name _ hm
 obtain rfl := Option.some.inj (hg.symm.trans hg')
 obtain rfl := Option.some.inj (hty.symm.trans ht')
 have hcs := Lib.cells_of_tab ht he hce hct hd
 have hsz : 0 < cs.size := by
  have := congrArg List.length hcs
  simp only [Array.length_toList, List.length_map] at this
  have h0 : zs.length ≠ 0 := by simpa using hz
  omega
 have hin : MemPlace.cell g 0 ∈ ps := by
  apply hps
  unfold MemPlace.row
  simp
  omega
 obtain ⟨⟨c, t2, hc⟩, _⟩ := hcell g 0 hin
 refine ⟨t2, zs.map fun z => Value.int k z, ?_, zdl _ _ _⟩
 have hcc : c = cs := by
  simp only [World.var?, hg, Option.bind_some, hc, Option.some.injEq] at hvar
  exact hvar
 rw [hc, hcc]
 congr 2
 apply Array.ext'
 simpa using hcs
end Go.Ev
namespace Go.Ev
open Go.RowKit
variable {P : Program}
noncomputable def pureK (f : FuncId) (g : List SV → Option SV) : Known := fun h xs M => match Nat.beq h f with
 | true => match g xs with
  | some s => some (s, M)
  | none => none
 | false => none
def Idle (w w' : World) : Prop := w'.heap = w.heap ∧ w'.os = w.os ∧ w'.tape = w.tape ∧ w'.output = w.output
theorem sound_pure {f : FuncId} {g : List SV → Option SV} (h : ∀ (xs : List SV) (s : SV), g xs = some s → ∀ (m : Map) (w : World) (vs : Array Value), concs m xs = some vs.toList → ∃ v, conc m s = some v ∧ Calls P f vs w fun e w' => e = .returned v ∧ Idle w w') (B : Nat) : Sound P B (pureK f g) := by
 intro f' xs M s M' hk
 unfold pureK at hk
 split at hk
 ·rename_i hb
  obtain rfl := Nat.eq_of_beq_eq_true hb
  split at hk
  ·rename_i s' hs
   simp only [Option.some.injEq, Prod.mk.injEq] at hk
   obtain ⟨rfl, rfl⟩ := hk
   intro m w vs hr has c cs
   obtain ⟨v, hv, hc⟩ := h xs _ hs m w vs has
   obtain ⟨e, w', fr, ⟨rfl, h1, h2, h3, h4⟩, hcome, hfn, hl⟩ := hc (c :: cs)
   refine ⟨m, w', v, ⟨hr.drew h1, fun _ _ => rfl, fun _ _ _ => rfl, Nat.le_refl _, ⟨h2, h3, h4, by rw [h1]; exact Nat.le_refl _, fun k _ => by rw [h1]⟩, fun k _ _ => by rw [h1], fun _ _ h => h, fun _ _ => rfl, rfl, fun _ _ h => h, fun b p hb hp _ => absurd hp (by rw [(hr.fresh b hb).1]; simp)⟩, hv, ?_⟩
   exact Steps.trans hcome (.one (step_leave_returned hl))
  ·simp at hk
 ·simp at hk
noncomputable def orK (I J : Known) : Known := fun f xs M => match I f xs M with
 | some r => some r
 | none => J f xs M
theorem sound_or {I J : Known} {B : Nat} (hI : Sound P B I) (hJ : Sound P B J) : Sound P B (orK I J) := by
 intro f xs M s M' h
 unfold orK at h
 split at h
 ·rename_i r hr
  simp only [Option.some.injEq] at h
  subst h
  exact hI f xs M s M' hr
 ·exact hJ f xs M s M' h
end Go.Ev
namespace Go.Ev
open Go.RowKit
variable {P : Program}
theorem sound_quiet {f : FuncId} {g : List SV → Option SV} (h : ∀ (xs : List SV) (s : SV), g xs = some s → ∀ (m : Map) (w : World) (vs : Array Value), concs m xs = some vs.toList → ∃ v, conc m s = some v ∧ Calls P f vs w fun e w' => e = .returned v ∧ Below w.heap.size w w') (B : Nat) : Sound P B (pureK f g) := by
 intro f' xs M s M' hk
 unfold pureK at hk
 split at hk
 ·rename_i hb
  obtain rfl := Nat.eq_of_beq_eq_true hb
  split at hk
  ·rename_i s' hs
   simp only [Option.some.injEq, Prod.mk.injEq] at hk
   obtain ⟨rfl, rfl⟩ := hk
   intro m w vs hr has c cs
   obtain ⟨v, hv, hc⟩ := h xs _ hs m w vs has
   obtain ⟨e, w', fr, ⟨rfl, hb⟩, hcome, hfn, hl⟩ := hc (c :: cs)
   refine ⟨m, w', v, ⟨hr.kept hb, fun _ _ => rfl, fun _ _ _ => rfl, Nat.le_refl _, hb.mono hr.base, fun k hk _ => hb.block k hk, fun _ _ h => h, fun _ _ => rfl, rfl, fun _ _ h => h, fun b p hb hp _ => absurd hp (by rw [(hr.fresh b hb).1]; simp)⟩, hv, ?_⟩
   exact Steps.trans hcome (.one (step_leave_returned hl))
  ·simp at hk
 ·simp at hk
end Go.Ev
namespace Go.Ev
open Go.RowKit
variable {P : Program}
end Go.Ev
