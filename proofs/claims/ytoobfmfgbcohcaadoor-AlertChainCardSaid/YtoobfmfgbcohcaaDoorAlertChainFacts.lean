/- The closed facts of the row, one by one. -/
import Derived.Test.YtoobfmfgbcohcaaDoorRows
import Derived.JoinedOf
import Derived.KernelRfl
namespace Go.Proofs.YtoobfmfgbcohcaaDoor.alertChain
open Go
theorem j0 : (Rows.alertChainRow.wf (OpenSpec.ofChange Rows.alertChainSpec)) = true := by kernel_rfl
theorem j1 : (laidOutB Tryd.prog) = true := by kernel_rfl
theorem j2 : (mapsRowed Tryd.prog) = true := by kernel_rfl
theorem j3 : (Tryd.f7.params.all (Tryd.prog.readableRec ·)) = true := by kernel_rfl
theorem j4 : (namedTie Tryd.prog Rows.alertChainRow.named Rows.alertChainSpec.vars) = true := by kernel_rfl
theorem j5 : ((Rows.alertChainRow.stops == [])) = true := by kernel_rfl
theorem j6 : ((Tryd.prog.stops == [])) = true := by kernel_rfl
theorem j7 : ((Rows.alertChainRow.knobs == [])) = true := by kernel_rfl
theorem j8 : ((Tryd.prog.stopKnobs == [])) = true := by kernel_rfl
theorem j9 : ((Rows.alertChainRow.inPlace == Tryd.prog.inPlace 7)) = true := by kernel_rfl
theorem j10 : ((Rows.alertChainRow.unfollowed == Tryd.prog.unfollowed 7)) = true := by kernel_rfl
theorem j11 : ((Rows.alertChainRow.recurses == Tryd.prog.recurses 7)) = true := by kernel_rfl
theorem j12 : ((Rows.alertChainRow.named == Tryd.prog.varsNamed 7)) = true := by kernel_rfl
theorem j13 : ((Rows.alertChainRow.maps == (Tryd.f7.params.toList ++ Rows.alertChainSpec.plain.varTypes Tryd.prog).any (Tryd.prog.mapsRec ·))) = true := by kernel_rfl
theorem j14 : ((Rows.alertChainRow.ifaces == (Tryd.f7.params.toList ++ Rows.alertChainSpec.plain.varTypes Tryd.prog).any (Tryd.prog.ifacesRec ·))) = true := by kernel_rfl
theorem j15 : ((Rows.alertChainRow.mapsOut == Tryd.prog.mapsAmong Tryd.f7.resultTypes.toList)) = true := by kernel_rfl
theorem j16 : ((Rows.alertChainRow.loops == (Tryd.f7.params.toList ++ Rows.alertChainSpec.plain.varTypes Tryd.prog).any (Tryd.prog.loopsFrom ·))) = true := by kernel_rfl
theorem j17 : ((Rows.alertChainRow.wideKeys == (Tryd.f7.params.toList ++ Rows.alertChainSpec.plain.varTypes Tryd.prog ++ Tryd.f7.resultTypes.toList).any (Tryd.prog.wideKeysFrom ·))) = true := by kernel_rfl
theorem j18 : (Rows.alertChainSpec.vars.all (Tryd.prog.varReadable ·)) = true := by kernel_rfl
theorem j19 : (Tryd.f7.resultTypes.all (fun t => Tryd.prog.readableRec t && decide (t < Tryd.prog.types.size))) = true := by kernel_rfl
theorem j20 : ((Rows.alertChainRow.ifacesOut == Tryd.f7.resultTypes.toList.any (Tryd.prog.ifacesRec ·))) = true := by kernel_rfl
theorem j21 : ((Rows.alertChainRow.loopsOut == Tryd.f7.resultTypes.toList.any (Tryd.prog.loopsFrom ·))) = true := by kernel_rfl
theorem j22 : ((Rows.alertChainRow.plainKeys == Tryd.prog.plainKeys)) = true := by kernel_rfl
theorem j23 : (Rows.alertChainRow.shortTexts.isNone) = true := by kernel_rfl
theorem j24 : (Tryd.prog.stopsHeard) = true := by kernel_rfl
theorem j25 : (Tryd.prog.mayEnter) = true := by kernel_rfl
theorem j26 : ((Rows.alertChainRow.lifted == Tryd.prog.liftsFinal)) = true := by kernel_rfl
theorem j27 : ((Tryd.prog.make == some Rows.alertChainRow.make)) = true := by kernel_rfl
theorem j28 : ((Rows.alertChainRow.kinds == (if Rows.alertChainRow.domain.isEmpty then [] else Tryd.f7.params.toList.map fun t => match Tryd.prog.underlying t with | some (.int k) => some k | _ => none))) = true := by kernel_rfl
theorem j29 : ((Rows.alertChainRow.pinned == Rows.alertChainRow.pinnedBy)) = true := by kernel_rfl
theorem j30 : ((Rows.alertChainRow.veiled == (Tryd.f7.params.toList ++ Rows.alertChainSpec.plain.varTypes Tryd.prog ++ Tryd.f7.resultTypes.toList).any (Tryd.prog.veiledRec ·))) = true := by kernel_rfl
theorem j31 : (Rows.alertChainRow.veiledFits Tryd.prog Tryd.f7.params.toList (Tryd.f7.params.toList ++ Rows.alertChainSpec.plain.varTypes Tryd.prog ++ Tryd.f7.resultTypes.toList)) = true := by kernel_rfl
theorem and2 {a b : Bool} (h : a = true) (h2 : b = true) : (a && b) = true := by rw [h, h2]; rfl
end Go.Proofs.YtoobfmfgbcohcaaDoor.alertChain
