/- A part of the small machine. -/
import Derived.Test.YtjddbfpinjjkkabGreatDoorEvW8
import Derived.Lib.LaidTab
import Derived.Lib.LaidU8
set_option linter.unusedVariables false
namespace Go.Ev
open Go.RowKit
variable {P : Program}
noncomputable def intCells (k : IntKind) (zs : List Int) : List SV := List.rec [] (fun z _ ih => SV.int k z :: ih) zs
theorem intCells_conc (m : Map) (k : IntKind) : ∀ zs : List Int, concs m (intCells k zs) = some (zs.map fun z => Value.int k z)
  | [] => rfl
  | z :: zs => by
    show concs m (.int k z :: intCells k zs) = _
    exact concs_cons rfl (intCells_conc m k zs)
theorem laidVars_at {w : World} : ∀ {l : List (String × DataW Unit)} {ps : List MemPlace}, DataW.LaidVars P w l ps → ∀ n d, (n, d) ∈ l →
    ∃ g t cs fuel p, P.globalNamed n = some g ∧ (P.globals[g]?).map (·.type) = some t ∧ w.var? P n = some cs ∧ DataW.trod (fun _ => ()) P w 0 (fun _ => true) false fuel t cs.toList = some (d, p) ∧ ∀ x ∈ MemPlace.row ⟨g, 0, none⟩ cs.size, x ∈ ps
  | [], _, _, _, _, hm => by cases hm
  | (n', d') :: r, ps, h, n, d, hm => by
    obtain ⟨g, t, cs, fuel, p, q, h1, h2, h3, h4, h5, rfl⟩ := h
    rcases List.mem_cons.1 hm with e | e
    · cases e
      exact ⟨g, t, cs, fuel, p, h1, h2, h3, h4, fun x hx => by simp [hx]⟩
    · obtain ⟨g, t, cs, fuel, p, k1, k2, k3, k4, k5⟩ := laidVars_at h5 n d e
      exact ⟨g, t, cs, fuel, p, k1, k2, k3, k4, fun x hx => by simp [k5 x hx]⟩
theorem laid_tab {w : World} {l : List (String × DataW Unit)} (h : laidMet P l w) {name : String} {k : IntKind} {zs : List Int} (hm : (name, Lib.tabData k zs) ∈ l) {g : Nat} {t e : TypeId} {n : Nat}
    (hg : P.globalNamed name = some g) (hty : (P.globals[g]?).map (·.type) = some t) (ht : P.underlying t = some (.array n e)) (he : P.underlying e = some (.int k)) (hce : P.cellsOf e = 1) (hct : P.cellsOf t = n) (hz : zs ≠ []) :
    ∃ e' vs, w.heap[g]? = some (.cells vs.toArray e' (0, 0)) ∧ concs (fun _ => none) (intCells k zs) = some vs := by
  obtain ⟨ps, hv, _, hcell⟩ := h
  obtain ⟨g', t', cs, fuel, p, hg', ht', hvar, hd, hps⟩ := laidVars_at hv name _ hm
  obtain rfl := Option.some.inj (hg.symm.trans hg')
  obtain rfl := Option.some.inj (hty.symm.trans ht')
  have hcs := Lib.cells_of_tab ht he hce hct hd
  have hsz : 0 < cs.size := by
    have := congrArg List.length hcs
    simp only [Array.length_toList, List.length_map] at this
    have h0 : zs.length ≠ 0 := by simpa using hz
    omega
  have hin : MemPlace.cell g 0 ∈ ps := by
    apply hps
    unfold MemPlace.row
    simp
    omega
  obtain ⟨⟨c, t2, hc⟩, _⟩ := hcell g 0 hin
  refine ⟨t2, zs.map fun z => Value.int k z, ?_, intCells_conc _ _ _⟩
  have hcc : c = cs := by
    simp only [World.var?, hg, Option.bind_some, hc, Option.some.injEq] at hvar
    exact hvar
  rw [hc, hcc]
  congr 2
  apply Array.ext'
  simpa using hcs
end Go.Ev
namespace Go.Ev
open Go.RowKit
variable {P : Program}
end Go.Ev
namespace Go.Ev
open Go.RowKit
variable {P : Program}
end Go.Ev
namespace Go.Ev
open Go.RowKit
variable {P : Program}
end Go.Ev
