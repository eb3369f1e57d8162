/- The closed facts of the row, one by one. -/
import Derived.Test.YtkoeamfomidldaaGreatDoorRows
import Derived.JoinedOf
import Derived.KernelRfl
namespace Go.Proofs.YtkoeamfomidldaaGreatDoor.bankKnown
open Go
theorem j0 : (Rows.bankKnownRow.wf (OpenSpec.ofChange Rows.bankKnownSpec)) = true := by kernel_rfl
theorem j1 : (laidOutB Tryz.prog) = true := by kernel_rfl
theorem j2 : (mapsRowed Tryz.prog) = true := by kernel_rfl
theorem j3 : (Tryz.f14.params.all (Tryz.prog.readableRec ·)) = true := by kernel_rfl
theorem j4 : (namedTie Tryz.prog Rows.bankKnownRow.named Rows.bankKnownSpec.vars) = true := by kernel_rfl
theorem j5 : ((Rows.bankKnownRow.stops == [])) = true := by kernel_rfl
theorem j6 : ((Tryz.prog.stops == [])) = true := by kernel_rfl
theorem j7 : ((Rows.bankKnownRow.knobs == [])) = true := by kernel_rfl
theorem j8 : ((Tryz.prog.stopKnobs == [])) = true := by kernel_rfl
theorem j9 : ((Rows.bankKnownRow.inPlace == Tryz.prog.inPlace 14)) = true := by kernel_rfl
theorem j10 : ((Rows.bankKnownRow.unfollowed == Tryz.prog.unfollowed 14)) = true := by kernel_rfl
theorem j11 : ((Rows.bankKnownRow.recurses == Tryz.prog.recurses 14)) = true := by kernel_rfl
theorem j12 : ((Rows.bankKnownRow.named == Tryz.prog.varsNamed 14)) = true := by kernel_rfl
theorem j13 : ((Rows.bankKnownRow.maps == (Tryz.f14.params.toList ++ Rows.bankKnownSpec.plain.varTypes Tryz.prog).any (Tryz.prog.mapsRec ·))) = true := by kernel_rfl
theorem j14 : ((Rows.bankKnownRow.ifaces == (Tryz.f14.params.toList ++ Rows.bankKnownSpec.plain.varTypes Tryz.prog).any (Tryz.prog.ifacesRec ·))) = true := by kernel_rfl
theorem j15 : ((Rows.bankKnownRow.mapsOut == Tryz.prog.mapsAmong Tryz.f14.resultTypes.toList)) = true := by kernel_rfl
theorem j16 : ((Rows.bankKnownRow.loops == (Tryz.f14.params.toList ++ Rows.bankKnownSpec.plain.varTypes Tryz.prog).any (Tryz.prog.loopsFrom ·))) = true := by kernel_rfl
theorem j17 : ((Rows.bankKnownRow.wideKeys == (Tryz.f14.params.toList ++ Rows.bankKnownSpec.plain.varTypes Tryz.prog ++ Tryz.f14.resultTypes.toList).any (Tryz.prog.wideKeysFrom ·))) = true := by kernel_rfl
theorem j18 : (Rows.bankKnownSpec.vars.all (Tryz.prog.varReadable ·)) = true := by kernel_rfl
theorem j19 : (Tryz.f14.resultTypes.all (fun t => Tryz.prog.readableRec t && decide (t < Tryz.prog.types.size))) = true := by kernel_rfl
theorem j20 : ((Rows.bankKnownRow.ifacesOut == Tryz.f14.resultTypes.toList.any (Tryz.prog.ifacesRec ·))) = true := by kernel_rfl
theorem j21 : ((Rows.bankKnownRow.loopsOut == Tryz.f14.resultTypes.toList.any (Tryz.prog.loopsFrom ·))) = true := by kernel_rfl
theorem j22 : ((Rows.bankKnownRow.plainKeys == Tryz.prog.plainKeys)) = true := by kernel_rfl
theorem j23 : (Rows.bankKnownRow.shortTexts.isNone) = true := by kernel_rfl
theorem j24 : (Tryz.prog.stopsHeard) = true := by kernel_rfl
theorem j25 : (Tryz.prog.mayEnter) = true := by kernel_rfl
theorem j26 : ((Rows.bankKnownRow.lifted == Tryz.prog.liftsFinal)) = true := by kernel_rfl
theorem j27 : ((Tryz.prog.make == some Rows.bankKnownRow.make)) = true := by kernel_rfl
theorem j28 : ((Rows.bankKnownRow.kinds == (if Rows.bankKnownRow.domain.isEmpty then [] else Tryz.f14.params.toList.map fun t => match Tryz.prog.underlying t with | some (.int k) => some k | _ => none))) = true := by kernel_rfl
theorem j29 : ((Rows.bankKnownRow.pinned == Rows.bankKnownRow.pinnedBy)) = true := by kernel_rfl
theorem j30 : ((Rows.bankKnownRow.veiled == (Tryz.f14.params.toList ++ Rows.bankKnownSpec.plain.varTypes Tryz.prog ++ Tryz.f14.resultTypes.toList).any (Tryz.prog.veiledRec ·))) = true := by kernel_rfl
theorem j31 : (Rows.bankKnownRow.veiledFits Tryz.prog Tryz.f14.params.toList (Tryz.f14.params.toList ++ Rows.bankKnownSpec.plain.varTypes Tryz.prog ++ Tryz.f14.resultTypes.toList)) = true := by kernel_rfl
theorem and2 {a b : Bool} (h : a = true) (h2 : b = true) : (a && b) = true := by rw [h, h2]; rfl
end Go.Proofs.YtkoeamfomidldaaGreatDoor.bankKnown
