/- SearchKnown() answers true in every heap in which it is called, whatever the tape says. No condition. -/
import Derived.Test.YtcifnjdjnoadfaaSearchKnownRun0
import Derived.Test.YtcifnjdjnoadfaaSearchKnownFacts
import Derived.Test.YtcifnjdjnoadfaaRows
import Derived.WalkKit
import Derived.ProofKit
import Derived.OpenShut
import Derived.Stop.Joined
namespace Go.Proofs.Ytcifnjdjnoadfaa.searchKnown
open Go.ChangeShapes Go.WideShapes Go.ChangeAt Go.RowKit Go.Ev
set_option maxRecDepth 1000000
theorem kn_end : endsTrue (runS noneKnown Dn Try.prog 12 kn3.f kn3.cs kn3.M) = true := by kernel_rfl
theorem kn_way (hI : ∀ B, Sound Try.prog B noneKnown) (hD : ∀ B, Sound Try.prog B Dn) (hmix : Try.prog.follows .mixedOrders = true) : Go.Ev.Way Try.prog kn0 kn3 :=
  (Go.Ev.way_next hI hD hmix 10 kn1_from).trans ((Go.Ev.way_next hI hD hmix 11 kn2_from).trans ((Go.Ev.way_next hI hD hmix 11 kn3_from).trans (Go.Ev.Way.refl _)))
theorem known_true (w : World) : Calls Try.prog 14 #[] w fun e w' => e = .returned (.bool true) ∧ Below w.heap.size w w' :=
  call_way_mem sound0 soundDn mixed 12 enterF (kn_way sound0 soundDn mixed) kn_end (memFix_rel 300 fixes (by kernel_rfl) (fun x hx => absurd hx List.not_mem_nil))
theorem own : ownKnob Try.prog.godebug = none := by kernel_rfl
set_option maxRecDepth 100000 in
theorem lifted (os : Os) (started : os.Started) (H : Type) (enc : TypeId × Value → H) :
    ReturnsInHanded {} Try.checked os 14 .any (Rows.searchKnownSpec.pre6 enc Try.prog Try.f14 Rows.searchKnownRow.domain false)
      (Rows.searchKnownSpec.post enc Try.prog Try.f14 false true false false) := by
  refine returnsInHanded_of_change (C := Try.checked) own started (by kernel_rfl) Try.func14
    (ChangeSpec.witness6 (enc := enc) (C := Try.checked) false ⟨#[], #[], []⟩ 8 (by kernel_rfl) (by kernel_rfl) (by kernel_rfl) (by kernel_rfl)) ?_
  intro W base args ds gs before hval0 hW hcnd _
  have hW' := hW
  obtain ⟨p, q, hA0, hV, rfl, hfz, hnd⟩ := hW
  have hA : DataW.TrodAll enc Try.prog W 0 (fun _ => true) true Try.f14.params.toList args.toList ds p := hA0
  rw [Try.params14] at hA
  obtain ⟨rfl, rfl, rfl⟩ := trodAll_none hA
  obtain ⟨rfl, rfl⟩ := trodVars_none hV
  clear hA0 hval0
  simp only [List.append_nil] at hW'
  refine (known_true W).mono fun e W' ⟨he, hb⟩ => ?_
  subst he
  exact ⟨_, rfl, [], [], [], [], [], [], hW', trodAll_cons_mk (shut_bool Try.underlying4 _) trodAll_mk0, rfl, rfl, hb.frame _, fun h => by cases h⟩
theorem hfn : Try.prog.funcNamed Rows.searchKnownRow.func = some 14 := by kernel_rfl
theorem hinst : Try.f14.isInstance Try.prog Rows.searchKnownRow.origin Rows.searchKnownRow.targs := of_decide_eq_true (by kernel_rfl)
theorem hwrap : Try.f14.isWrapper Try.prog Rows.searchKnownRow.wrapper Rows.searchKnownRow.mainSum := by
  unfold Func.isWrapper
  first
    | (rw [if_pos (by decide +kernel)]; kernel_rfl)
    | (rw [if_neg (by decide +kernel)]; exact ⟨rfl, rfl⟩)
set_option maxRecDepth 100000 in
theorem facts : joinedFacts Try.prog 14 Try.f14 Rows.searchKnownSpec Rows.searchKnownRow = true := (and2 (and2 (and2 (and2 (and2 (and2 (and2 (and2 (and2 (and2 (and2 (and2 (and2 (and2 (and2 (and2 (and2 (and2 (and2 (and2 (and2 (and2 (and2 (and2 (and2 (and2 (and2 (and2 (and2 (and2 (and2 j0 j1) j2) j3) j4) j5) j6) j7) j8) j9) j10) j11) j12) j13) j14) j15) j16) j17) j18) j19) j20) j21) j22) j23) j24) j25) j26) j27) j28) j29) j30) j31)
theorem proved : Rows.SearchKnownSaid :=
  OpenClaim.holds_of_wide (p := Try.pinned) (s := Rows.searchKnownSpec) (c := Rows.searchKnownRow) 14 Try.f14 rfl rfl rfl rfl rfl rfl rfl ⟨rfl, rfl, rfl, rfl, rfl⟩ rfl rfl rfl rfl rfl hfn Try.func14 facts hinst hwrap
    (fun os started H enc _ => lifted os started H enc)
#print axioms proved
end Go.Proofs.Ytcifnjdjnoadfaa.searchKnown
