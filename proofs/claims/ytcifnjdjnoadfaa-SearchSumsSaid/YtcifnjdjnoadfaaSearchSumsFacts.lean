/- The closed facts of the row, one by one. -/
import Derived.Test.YtcifnjdjnoadfaaRows
import Derived.JoinedOf
import Derived.KernelRfl
namespace Go.Proofs.Ytcifnjdjnoadfaa.searchSums
open Go
theorem j0 : (Rows.searchSumsRow.wf (OpenSpec.ofChange Rows.searchSumsSpec)) = true := by kernel_rfl
theorem j1 : (laidOutB Try.prog) = true := by kernel_rfl
theorem j2 : (mapsRowed Try.prog) = true := by kernel_rfl
theorem j3 : (Try.f13.params.all (Try.prog.readableRec ·)) = true := by kernel_rfl
theorem j4 : (namedTie Try.prog Rows.searchSumsRow.named Rows.searchSumsSpec.vars) = true := by kernel_rfl
theorem j5 : ((Rows.searchSumsRow.stops == [])) = true := by kernel_rfl
theorem j6 : ((Try.prog.stops == [])) = true := by kernel_rfl
theorem j7 : ((Rows.searchSumsRow.knobs == [])) = true := by kernel_rfl
theorem j8 : ((Try.prog.stopKnobs == [])) = true := by kernel_rfl
theorem j9 : ((Rows.searchSumsRow.inPlace == Try.prog.inPlace 13)) = true := by kernel_rfl
theorem j10 : ((Rows.searchSumsRow.unfollowed == Try.prog.unfollowed 13)) = true := by kernel_rfl
theorem j11 : ((Rows.searchSumsRow.recurses == Try.prog.recurses 13)) = true := by kernel_rfl
theorem j12 : ((Rows.searchSumsRow.named == Try.prog.varsNamed 13)) = true := by kernel_rfl
theorem j13 : ((Rows.searchSumsRow.maps == (Try.f13.params.toList ++ Rows.searchSumsSpec.plain.varTypes Try.prog).any (Try.prog.mapsRec ·))) = true := by kernel_rfl
theorem j14 : ((Rows.searchSumsRow.ifaces == (Try.f13.params.toList ++ Rows.searchSumsSpec.plain.varTypes Try.prog).any (Try.prog.ifacesRec ·))) = true := by kernel_rfl
theorem j15 : ((Rows.searchSumsRow.mapsOut == Try.prog.mapsAmong Try.f13.resultTypes.toList)) = true := by kernel_rfl
theorem j16 : ((Rows.searchSumsRow.loops == (Try.f13.params.toList ++ Rows.searchSumsSpec.plain.varTypes Try.prog).any (Try.prog.loopsFrom ·))) = true := by kernel_rfl
theorem j17 : ((Rows.searchSumsRow.wideKeys == (Try.f13.params.toList ++ Rows.searchSumsSpec.plain.varTypes Try.prog ++ Try.f13.resultTypes.toList).any (Try.prog.wideKeysFrom ·))) = true := by kernel_rfl
theorem j18 : (Rows.searchSumsSpec.vars.all (Try.prog.varReadable ·)) = true := by kernel_rfl
theorem j19 : (Try.f13.resultTypes.all (fun t => Try.prog.readableRec t && decide (t < Try.prog.types.size))) = true := by kernel_rfl
theorem j20 : ((Rows.searchSumsRow.ifacesOut == Try.f13.resultTypes.toList.any (Try.prog.ifacesRec ·))) = true := by kernel_rfl
theorem j21 : ((Rows.searchSumsRow.loopsOut == Try.f13.resultTypes.toList.any (Try.prog.loopsFrom ·))) = true := by kernel_rfl
theorem j22 : ((Rows.searchSumsRow.plainKeys == Try.prog.plainKeys)) = true := by kernel_rfl
theorem j23 : (Rows.searchSumsRow.shortTexts.isNone) = true := by kernel_rfl
theorem j24 : (Try.prog.stopsHeard) = true := by kernel_rfl
theorem j25 : (Try.prog.mayEnter) = true := by kernel_rfl
theorem j26 : ((Rows.searchSumsRow.lifted == Try.prog.liftsFinal)) = true := by kernel_rfl
theorem j27 : ((Try.prog.make == some Rows.searchSumsRow.make)) = true := by kernel_rfl
theorem j28 : ((Rows.searchSumsRow.kinds == (if Rows.searchSumsRow.domain.isEmpty then [] else Try.f13.params.toList.map fun t => match Try.prog.underlying t with | some (.int k) => some k | _ => none))) = true := by kernel_rfl
theorem j29 : ((Rows.searchSumsRow.pinned == Rows.searchSumsRow.pinnedBy)) = true := by kernel_rfl
theorem j30 : ((Rows.searchSumsRow.veiled == (Try.f13.params.toList ++ Rows.searchSumsSpec.plain.varTypes Try.prog ++ Try.f13.resultTypes.toList).any (Try.prog.veiledRec ·))) = true := by kernel_rfl
theorem j31 : (Rows.searchSumsRow.veiledFits Try.prog Try.f13.params.toList (Try.f13.params.toList ++ Rows.searchSumsSpec.plain.varTypes Try.prog ++ Try.f13.resultTypes.toList)) = true := by kernel_rfl
theorem and2 {a b : Bool} (h : a = true) (h2 : b = true) : (a && b) = true := by rw [h, h2]; rfl
end Go.Proofs.Ytcifnjdjnoadfaa.searchSums
