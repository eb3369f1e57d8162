/- The closed facts of the row, one by one. -/
import Derived.Test.YtoobfmfgbcohcaaDoorRows
import Derived.JoinedOf
import Derived.KernelRfl
namespace Go.Proofs.YtoobfmfgbcohcaaDoor.alertSigned
open Go
theorem j0 : (Rows.alertSignedRow.wf (OpenSpec.ofChange Rows.alertSignedSpec)) = true := by kernel_rfl
theorem j1 : (laidOutB Tryd.prog) = true := by kernel_rfl
theorem j2 : (mapsRowed Tryd.prog) = true := by kernel_rfl
theorem j3 : (Tryd.f6.params.all (Tryd.prog.readableRec ·)) = true := by kernel_rfl
theorem j4 : (namedTie Tryd.prog Rows.alertSignedRow.named Rows.alertSignedSpec.vars) = true := by kernel_rfl
theorem j5 : ((Rows.alertSignedRow.stops == [])) = true := by kernel_rfl
theorem j6 : ((Tryd.prog.stops == [])) = true := by kernel_rfl
theorem j7 : ((Rows.alertSignedRow.knobs == [])) = true := by kernel_rfl
theorem j8 : ((Tryd.prog.stopKnobs == [])) = true := by kernel_rfl
theorem j9 : ((Rows.alertSignedRow.inPlace == Tryd.prog.inPlace 6)) = true := by kernel_rfl
theorem j10 : ((Rows.alertSignedRow.unfollowed == Tryd.prog.unfollowed 6)) = true := by kernel_rfl
theorem j11 : ((Rows.alertSignedRow.recurses == Tryd.prog.recurses 6)) = true := by kernel_rfl
theorem j12 : ((Rows.alertSignedRow.named == Tryd.prog.varsNamed 6)) = true := by kernel_rfl
theorem j13 : ((Rows.alertSignedRow.maps == (Tryd.f6.params.toList ++ Rows.alertSignedSpec.plain.varTypes Tryd.prog).any (Tryd.prog.mapsRec ·))) = true := by kernel_rfl
theorem j14 : ((Rows.alertSignedRow.ifaces == (Tryd.f6.params.toList ++ Rows.alertSignedSpec.plain.varTypes Tryd.prog).any (Tryd.prog.ifacesRec ·))) = true := by kernel_rfl
theorem j15 : ((Rows.alertSignedRow.mapsOut == Tryd.prog.mapsAmong Tryd.f6.resultTypes.toList)) = true := by kernel_rfl
theorem j16 : ((Rows.alertSignedRow.loops == (Tryd.f6.params.toList ++ Rows.alertSignedSpec.plain.varTypes Tryd.prog).any (Tryd.prog.loopsFrom ·))) = true := by kernel_rfl
theorem j17 : ((Rows.alertSignedRow.wideKeys == (Tryd.f6.params.toList ++ Rows.alertSignedSpec.plain.varTypes Tryd.prog ++ Tryd.f6.resultTypes.toList).any (Tryd.prog.wideKeysFrom ·))) = true := by kernel_rfl
theorem j18 : (Rows.alertSignedSpec.vars.all (Tryd.prog.varReadable ·)) = true := by kernel_rfl
theorem j19 : (Tryd.f6.resultTypes.all (fun t => Tryd.prog.readableRec t && decide (t < Tryd.prog.types.size))) = true := by kernel_rfl
theorem j20 : ((Rows.alertSignedRow.ifacesOut == Tryd.f6.resultTypes.toList.any (Tryd.prog.ifacesRec ·))) = true := by kernel_rfl
theorem j21 : ((Rows.alertSignedRow.loopsOut == Tryd.f6.resultTypes.toList.any (Tryd.prog.loopsFrom ·))) = true := by kernel_rfl
theorem j22 : ((Rows.alertSignedRow.plainKeys == Tryd.prog.plainKeys)) = true := by kernel_rfl
theorem j23 : (Rows.alertSignedRow.shortTexts.isNone) = true := by kernel_rfl
theorem j24 : (Tryd.prog.stopsHeard) = true := by kernel_rfl
theorem j25 : (Tryd.prog.mayEnter) = true := by kernel_rfl
theorem j26 : ((Rows.alertSignedRow.lifted == Tryd.prog.liftsFinal)) = true := by kernel_rfl
theorem j27 : ((Tryd.prog.make == some Rows.alertSignedRow.make)) = true := by kernel_rfl
theorem j28 : ((Rows.alertSignedRow.kinds == (if Rows.alertSignedRow.domain.isEmpty then [] else Tryd.f6.params.toList.map fun t => match Tryd.prog.underlying t with | some (.int k) => some k | _ => none))) = true := by kernel_rfl
theorem j29 : ((Rows.alertSignedRow.pinned == Rows.alertSignedRow.pinnedBy)) = true := by kernel_rfl
theorem j30 : ((Rows.alertSignedRow.veiled == (Tryd.f6.params.toList ++ Rows.alertSignedSpec.plain.varTypes Tryd.prog ++ Tryd.f6.resultTypes.toList).any (Tryd.prog.veiledRec ·))) = true := by kernel_rfl
theorem j31 : (Rows.alertSignedRow.veiledFits Tryd.prog Tryd.f6.params.toList (Tryd.f6.params.toList ++ Rows.alertSignedSpec.plain.varTypes Tryd.prog ++ Tryd.f6.resultTypes.toList)) = true := by kernel_rfl
theorem and2 {a b : Bool} (h : a = true) (h2 : b = true) : (a && b) = true := by rw [h, h2]; rfl
end Go.Proofs.YtoobfmfgbcohcaaDoor.alertSigned
