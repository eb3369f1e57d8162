/- The closed facts of the row, one by one. -/
import Derived.Test.YtcifnjdjnoadfaaRows
import Derived.JoinedOf
import Derived.KernelRfl
namespace Go.Proofs.Ytcifnjdjnoadfaa.searchBound
open Go
theorem j0 : (Rows.searchBoundRow.wf (OpenSpec.ofChange Rows.searchBoundSpec)) = true := by kernel_rfl
theorem j1 : (laidOutB Try.prog) = true := by kernel_rfl
theorem j2 : (mapsRowed Try.prog) = true := by kernel_rfl
theorem j3 : (Try.f12.params.all (Try.prog.readableRec ·)) = true := by kernel_rfl
theorem j4 : (namedTie Try.prog Rows.searchBoundRow.named Rows.searchBoundSpec.vars) = true := by kernel_rfl
theorem j5 : ((Rows.searchBoundRow.stops == [])) = true := by kernel_rfl
theorem j6 : ((Try.prog.stops == [])) = true := by kernel_rfl
theorem j7 : ((Rows.searchBoundRow.knobs == [])) = true := by kernel_rfl
theorem j8 : ((Try.prog.stopKnobs == [])) = true := by kernel_rfl
theorem j9 : ((Rows.searchBoundRow.inPlace == Try.prog.inPlace 12)) = true := by kernel_rfl
theorem j10 : ((Rows.searchBoundRow.unfollowed == Try.prog.unfollowed 12)) = true := by kernel_rfl
theorem j11 : ((Rows.searchBoundRow.recurses == Try.prog.recurses 12)) = true := by kernel_rfl
theorem j12 : ((Rows.searchBoundRow.named == Try.prog.varsNamed 12)) = true := by kernel_rfl
theorem j13 : ((Rows.searchBoundRow.maps == (Try.f12.params.toList ++ Rows.searchBoundSpec.plain.varTypes Try.prog).any (Try.prog.mapsRec ·))) = true := by kernel_rfl
theorem j14 : ((Rows.searchBoundRow.ifaces == (Try.f12.params.toList ++ Rows.searchBoundSpec.plain.varTypes Try.prog).any (Try.prog.ifacesRec ·))) = true := by kernel_rfl
theorem j15 : ((Rows.searchBoundRow.mapsOut == Try.prog.mapsAmong Try.f12.resultTypes.toList)) = true := by kernel_rfl
theorem j16 : ((Rows.searchBoundRow.loops == (Try.f12.params.toList ++ Rows.searchBoundSpec.plain.varTypes Try.prog).any (Try.prog.loopsFrom ·))) = true := by kernel_rfl
theorem j17 : ((Rows.searchBoundRow.wideKeys == (Try.f12.params.toList ++ Rows.searchBoundSpec.plain.varTypes Try.prog ++ Try.f12.resultTypes.toList).any (Try.prog.wideKeysFrom ·))) = true := by kernel_rfl
theorem j18 : (Rows.searchBoundSpec.vars.all (Try.prog.varReadable ·)) = true := by kernel_rfl
theorem j19 : (Try.f12.resultTypes.all (fun t => Try.prog.readableRec t && decide (t < Try.prog.types.size))) = true := by kernel_rfl
theorem j20 : ((Rows.searchBoundRow.ifacesOut == Try.f12.resultTypes.toList.any (Try.prog.ifacesRec ·))) = true := by kernel_rfl
theorem j21 : ((Rows.searchBoundRow.loopsOut == Try.f12.resultTypes.toList.any (Try.prog.loopsFrom ·))) = true := by kernel_rfl
theorem j22 : ((Rows.searchBoundRow.plainKeys == Try.prog.plainKeys)) = true := by kernel_rfl
theorem j23 : (Rows.searchBoundRow.shortTexts.isNone) = true := by kernel_rfl
theorem j24 : (Try.prog.stopsHeard) = true := by kernel_rfl
theorem j25 : (Try.prog.mayEnter) = true := by kernel_rfl
theorem j26 : ((Rows.searchBoundRow.lifted == Try.prog.liftsFinal)) = true := by kernel_rfl
theorem j27 : ((Try.prog.make == some Rows.searchBoundRow.make)) = true := by kernel_rfl
theorem j28 : ((Rows.searchBoundRow.kinds == (if Rows.searchBoundRow.domain.isEmpty then [] else Try.f12.params.toList.map fun t => match Try.prog.underlying t with | some (.int k) => some k | _ => none))) = true := by kernel_rfl
theorem j29 : ((Rows.searchBoundRow.pinned == Rows.searchBoundRow.pinnedBy)) = true := by kernel_rfl
theorem j30 : ((Rows.searchBoundRow.veiled == (Try.f12.params.toList ++ Rows.searchBoundSpec.plain.varTypes Try.prog ++ Try.f12.resultTypes.toList).any (Try.prog.veiledRec ·))) = true := by kernel_rfl
theorem j31 : (Rows.searchBoundRow.veiledFits Try.prog Try.f12.params.toList (Try.f12.params.toList ++ Rows.searchBoundSpec.plain.varTypes Try.prog ++ Try.f12.resultTypes.toList)) = true := by kernel_rfl
theorem and2 {a b : Bool} (h : a = true) (h2 : b = true) : (a && b) = true := by rw [h, h2]; rfl
end Go.Proofs.Ytcifnjdjnoadfaa.searchBound
