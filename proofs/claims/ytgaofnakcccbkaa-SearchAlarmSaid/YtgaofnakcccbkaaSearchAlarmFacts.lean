/- The closed facts of the row, one by one. -/
import Derived.Test.YtgaofnakcccbkaaRows
import Derived.JoinedOf
import Derived.KernelRfl
namespace Go.Proofs.Ytgaofnakcccbkaa.searchAlarm
open Go
theorem j0 : (Rows.searchAlarmRow.wf (OpenSpec.ofChange Rows.searchAlarmSpec)) = true := by kernel_rfl
theorem j1 : (laidOutB Try.prog) = true := by kernel_rfl
theorem j2 : (mapsRowed Try.prog) = true := by kernel_rfl
theorem j3 : (Try.f6.params.all (Try.prog.readableRec ·)) = true := by kernel_rfl
theorem j4 : (namedTie Try.prog Rows.searchAlarmRow.named Rows.searchAlarmSpec.vars) = true := by kernel_rfl
theorem j5 : ((Rows.searchAlarmRow.stops == [])) = true := by kernel_rfl
theorem j6 : ((Try.prog.stops == [])) = true := by kernel_rfl
theorem j7 : ((Rows.searchAlarmRow.knobs == [])) = true := by kernel_rfl
theorem j8 : ((Try.prog.stopKnobs == [])) = true := by kernel_rfl
theorem j9 : ((Rows.searchAlarmRow.inPlace == Try.prog.inPlace 6)) = true := by kernel_rfl
theorem j10 : ((Rows.searchAlarmRow.unfollowed == Try.prog.unfollowed 6)) = true := by kernel_rfl
theorem j11 : ((Rows.searchAlarmRow.recurses == Try.prog.recurses 6)) = true := by kernel_rfl
theorem j12 : ((Rows.searchAlarmRow.named == Try.prog.varsNamed 6)) = true := by kernel_rfl
theorem j13 : ((Rows.searchAlarmRow.maps == (Try.f6.params.toList ++ Rows.searchAlarmSpec.plain.varTypes Try.prog).any (Try.prog.mapsRec ·))) = true := by kernel_rfl
theorem j14 : ((Rows.searchAlarmRow.ifaces == (Try.f6.params.toList ++ Rows.searchAlarmSpec.plain.varTypes Try.prog).any (Try.prog.ifacesRec ·))) = true := by kernel_rfl
theorem j15 : ((Rows.searchAlarmRow.mapsOut == Try.prog.mapsAmong Try.f6.resultTypes.toList)) = true := by kernel_rfl
theorem j16 : ((Rows.searchAlarmRow.loops == (Try.f6.params.toList ++ Rows.searchAlarmSpec.plain.varTypes Try.prog).any (Try.prog.loopsFrom ·))) = true := by kernel_rfl
theorem j17 : ((Rows.searchAlarmRow.wideKeys == (Try.f6.params.toList ++ Rows.searchAlarmSpec.plain.varTypes Try.prog ++ Try.f6.resultTypes.toList).any (Try.prog.wideKeysFrom ·))) = true := by kernel_rfl
theorem j18 : (Rows.searchAlarmSpec.vars.all (Try.prog.varReadable ·)) = true := by kernel_rfl
theorem j19 : (Try.f6.resultTypes.all (fun t => Try.prog.readableRec t && decide (t < Try.prog.types.size))) = true := by kernel_rfl
theorem j20 : ((Rows.searchAlarmRow.ifacesOut == Try.f6.resultTypes.toList.any (Try.prog.ifacesRec ·))) = true := by kernel_rfl
theorem j21 : ((Rows.searchAlarmRow.loopsOut == Try.f6.resultTypes.toList.any (Try.prog.loopsFrom ·))) = true := by kernel_rfl
theorem j22 : ((Rows.searchAlarmRow.plainKeys == Try.prog.plainKeys)) = true := by kernel_rfl
theorem j23 : (Rows.searchAlarmRow.shortTexts.isNone) = true := by kernel_rfl
theorem j24 : (Try.prog.stopsHeard) = true := by kernel_rfl
theorem j25 : (Try.prog.mayEnter) = true := by kernel_rfl
theorem j26 : ((Rows.searchAlarmRow.lifted == Try.prog.liftsFinal)) = true := by kernel_rfl
theorem j27 : ((Try.prog.make == some Rows.searchAlarmRow.make)) = true := by kernel_rfl
theorem j28 : ((Rows.searchAlarmRow.kinds == (if Rows.searchAlarmRow.domain.isEmpty then [] else Try.f6.params.toList.map fun t => match Try.prog.underlying t with | some (.int k) => some k | _ => none))) = true := by kernel_rfl
theorem j29 : ((Rows.searchAlarmRow.pinned == Rows.searchAlarmRow.pinnedBy)) = true := by kernel_rfl
theorem j30 : ((Rows.searchAlarmRow.veiled == (Try.f6.params.toList ++ Rows.searchAlarmSpec.plain.varTypes Try.prog ++ Try.f6.resultTypes.toList).any (Try.prog.veiledRec ·))) = true := by kernel_rfl
theorem j31 : (Rows.searchAlarmRow.veiledFits Try.prog Try.f6.params.toList (Try.f6.params.toList ++ Rows.searchAlarmSpec.plain.varTypes Try.prog ++ Try.f6.resultTypes.toList)) = true := by kernel_rfl
theorem and2 {a b : Bool} (h : a = true) (h2 : b = true) : (a && b) = true := by rw [h, h2]; rfl
end Go.Proofs.Ytgaofnakcccbkaa.searchAlarm
