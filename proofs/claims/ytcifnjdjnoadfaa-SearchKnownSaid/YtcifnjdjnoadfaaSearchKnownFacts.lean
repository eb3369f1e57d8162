/- The closed facts of the row, one by one. -/
import Derived.Test.YtcifnjdjnoadfaaRows
import Derived.JoinedOf
import Derived.KernelRfl
namespace Go.Proofs.Ytcifnjdjnoadfaa.searchKnown
open Go
theorem j0 : (Rows.searchKnownRow.wf (OpenSpec.ofChange Rows.searchKnownSpec)) = true := by kernel_rfl
theorem j1 : (laidOutB Try.prog) = true := by kernel_rfl
theorem j2 : (mapsRowed Try.prog) = true := by kernel_rfl
theorem j3 : (Try.f14.params.all (Try.prog.readableRec ·)) = true := by kernel_rfl
theorem j4 : (namedTie Try.prog Rows.searchKnownRow.named Rows.searchKnownSpec.vars) = true := by kernel_rfl
theorem j5 : ((Rows.searchKnownRow.stops == [])) = true := by kernel_rfl
theorem j6 : ((Try.prog.stops == [])) = true := by kernel_rfl
theorem j7 : ((Rows.searchKnownRow.knobs == [])) = true := by kernel_rfl
theorem j8 : ((Try.prog.stopKnobs == [])) = true := by kernel_rfl
theorem j9 : ((Rows.searchKnownRow.inPlace == Try.prog.inPlace 14)) = true := by kernel_rfl
theorem j10 : ((Rows.searchKnownRow.unfollowed == Try.prog.unfollowed 14)) = true := by kernel_rfl
theorem j11 : ((Rows.searchKnownRow.recurses == Try.prog.recurses 14)) = true := by kernel_rfl
theorem j12 : ((Rows.searchKnownRow.named == Try.prog.varsNamed 14)) = true := by kernel_rfl
theorem j13 : ((Rows.searchKnownRow.maps == (Try.f14.params.toList ++ Rows.searchKnownSpec.plain.varTypes Try.prog).any (Try.prog.mapsRec ·))) = true := by kernel_rfl
theorem j14 : ((Rows.searchKnownRow.ifaces == (Try.f14.params.toList ++ Rows.searchKnownSpec.plain.varTypes Try.prog).any (Try.prog.ifacesRec ·))) = true := by kernel_rfl
theorem j15 : ((Rows.searchKnownRow.mapsOut == Try.prog.mapsAmong Try.f14.resultTypes.toList)) = true := by kernel_rfl
theorem j16 : ((Rows.searchKnownRow.loops == (Try.f14.params.toList ++ Rows.searchKnownSpec.plain.varTypes Try.prog).any (Try.prog.loopsFrom ·))) = true := by kernel_rfl
theorem j17 : ((Rows.searchKnownRow.wideKeys == (Try.f14.params.toList ++ Rows.searchKnownSpec.plain.varTypes Try.prog ++ Try.f14.resultTypes.toList).any (Try.prog.wideKeysFrom ·))) = true := by kernel_rfl
theorem j18 : (Rows.searchKnownSpec.vars.all (Try.prog.varReadable ·)) = true := by kernel_rfl
theorem j19 : (Try.f14.resultTypes.all (fun t => Try.prog.readableRec t && decide (t < Try.prog.types.size))) = true := by kernel_rfl
theorem j20 : ((Rows.searchKnownRow.ifacesOut == Try.f14.resultTypes.toList.any (Try.prog.ifacesRec ·))) = true := by kernel_rfl
theorem j21 : ((Rows.searchKnownRow.loopsOut == Try.f14.resultTypes.toList.any (Try.prog.loopsFrom ·))) = true := by kernel_rfl
theorem j22 : ((Rows.searchKnownRow.plainKeys == Try.prog.plainKeys)) = true := by kernel_rfl
theorem j23 : (Rows.searchKnownRow.shortTexts.isNone) = true := by kernel_rfl
theorem j24 : (Try.prog.stopsHeard) = true := by kernel_rfl
theorem j25 : (Try.prog.mayEnter) = true := by kernel_rfl
theorem j26 : ((Rows.searchKnownRow.lifted == Try.prog.liftsFinal)) = true := by kernel_rfl
theorem j27 : ((Try.prog.make == some Rows.searchKnownRow.make)) = true := by kernel_rfl
theorem j28 : ((Rows.searchKnownRow.kinds == (if Rows.searchKnownRow.domain.isEmpty then [] else Try.f14.params.toList.map fun t => match Try.prog.underlying t with | some (.int k) => some k | _ => none))) = true := by kernel_rfl
theorem j29 : ((Rows.searchKnownRow.pinned == Rows.searchKnownRow.pinnedBy)) = true := by kernel_rfl
theorem j30 : ((Rows.searchKnownRow.veiled == (Try.f14.params.toList ++ Rows.searchKnownSpec.plain.varTypes Try.prog ++ Try.f14.resultTypes.toList).any (Try.prog.veiledRec ·))) = true := by kernel_rfl
theorem j31 : (Rows.searchKnownRow.veiledFits Try.prog Try.f14.params.toList (Try.f14.params.toList ++ Rows.searchKnownSpec.plain.varTypes Try.prog ++ Try.f14.resultTypes.toList)) = true := by kernel_rfl
theorem and2 {a b : Bool} (h : a = true) (h2 : b = true) : (a && b) = true := by rw [h, h2]; rfl
end Go.Proofs.Ytcifnjdjnoadfaa.searchKnown
