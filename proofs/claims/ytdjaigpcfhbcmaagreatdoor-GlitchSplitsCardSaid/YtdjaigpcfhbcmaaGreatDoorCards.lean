/-
  DERIVED. GIVEN WITH THE SEED: THE CARDS: each row of YtdjaigpcfhbcmaaGreatDoorRows.lean that lists a variable, with what it lists TIED to the program's text (the seventh form; the later family's looks); each row that meets fmt, with fmt's text TOLD by the authors' own Lean function (tested against real Go, not proved from fmt's source: count such statements apart). THE CARD IS WHAT COUNTS. Prove the row's statement (the work); the ties are given (YtdjaigpcfhbcmaaGreatDoorTie.lean); close each card by the builder's one call (the guide's Derived/Test/ToyasCard.lean, 'card_holds'). Laid BY PROGRAM, IN A SANDBOX (cutbox-door.mjs). By AI agents, Wed Nov 11 2026. No macro, syntax, notation, axiom, sorry.
-/
import Derived.Test.YtdjaigpcfhbcmaaGreatDoorRows
import GoSem.ClaimSeven
namespace Go.Proofs.YtdjaigpcfhbcmaaGreatDoor
namespace Rows

/-- THE TIED CARD OF 'ringdownlaw06.GlitchLinear'. -/
def glitchLinearCard : Claim7 := { stood := { row := glitchLinearRow, standIns := [], harness := (true, "b142abcd417079d96a0fdc72605cd29367ebaba13f0361d8726806704368a874"), looks := false }, kinds := [], alts := [], laidByText := true, laidKinds := [.data, .data, .data], laidTests := true, laidLooks := .later }
def GlitchLinearCardSaid : Prop := Claim7.holds Tryz.pinned (.plain (OpenSpec.ofChange glitchLinearSpec)) glitchLinearCard

/-- THE TIED CARD OF 'ringdownlaw06.GlitchSplits'. -/
def glitchSplitsCard : Claim7 := { stood := { row := glitchSplitsRow, standIns := [], harness := (true, "b142abcd417079d96a0fdc72605cd29367ebaba13f0361d8726806704368a874"), looks := false }, kinds := [], alts := [], laidByText := true, laidKinds := [.data, .data, .data], laidTests := true, laidLooks := .later }
def GlitchSplitsCardSaid : Prop := Claim7.holds Tryz.pinned (.plain (OpenSpec.ofChange glitchSplitsSpec)) glitchSplitsCard

/-- THE TIED CARD OF 'ringdownlaw06.GlitchTime'. -/
def glitchTimeCard : Claim7 := { stood := { row := glitchTimeRow, standIns := [], harness := (true, "b142abcd417079d96a0fdc72605cd29367ebaba13f0361d8726806704368a874"), looks := false }, kinds := [], alts := [], laidByText := true, laidKinds := [.data, .data, .data], laidTests := true, laidLooks := .later }
def GlitchTimeCardSaid : Prop := Claim7.holds Tryz.pinned (.plain (OpenSpec.ofChange glitchTimeSpec)) glitchTimeCard

/-- THE TIED CARD OF 'ringdownlaw06.GlitchVetoes'. -/
def glitchVetoesCard : Claim7 := { stood := { row := glitchVetoesRow, standIns := [], harness := (true, "b142abcd417079d96a0fdc72605cd29367ebaba13f0361d8726806704368a874"), looks := false }, kinds := [], alts := [], laidByText := true, laidKinds := [.data, .data, .data], laidTests := true, laidLooks := .later }
def GlitchVetoesCardSaid : Prop := Claim7.holds Tryz.pinned (.plain (OpenSpec.ofChange glitchVetoesSpec)) glitchVetoesCard

/-- THE TIED CARD OF 'ringdownlaw06.GlitchCounts'. -/
def glitchCountsCard : Claim7 := { stood := { row := glitchCountsRow, standIns := [], harness := (true, "b142abcd417079d96a0fdc72605cd29367ebaba13f0361d8726806704368a874"), looks := false }, kinds := [], alts := [], laidByText := true, laidKinds := [.data, .data, .data], laidTests := true, laidLooks := .later }
def GlitchCountsCardSaid : Prop := Claim7.holds Tryz.pinned (.plain (OpenSpec.ofChange glitchCountsSpec)) glitchCountsCard

/-- THE TIED CARD OF 'ringdownlaw06.GlitchTiles'. -/
def glitchTilesCard : Claim7 := { stood := { row := glitchTilesRow, standIns := [], harness := (true, "b142abcd417079d96a0fdc72605cd29367ebaba13f0361d8726806704368a874"), looks := false }, kinds := [], alts := [], laidByText := true, laidKinds := [.data, .data, .data], laidTests := true, laidLooks := .later }
def GlitchTilesCardSaid : Prop := Claim7.holds Tryz.pinned (.plain (OpenSpec.ofChange glitchTilesSpec)) glitchTilesCard

/-- THE SECOND FORM's CARD OF 'ringdownlaw06.GlitchLinear'. -/
def glitchLinearUptoCard : Claim7 := { stood := { row := glitchLinearUptoRow, standIns := [], harness := (true, "b142abcd417079d96a0fdc72605cd29367ebaba13f0361d8726806704368a874"), looks := false }, kinds := [], alts := [], laidByText := true, laidKinds := [.data, .data, .data], laidTests := true, laidLooks := .later }
def GlitchLinearUptoCardSaid : Prop := Claim7.holds Tryz.pinned (.plain (OpenSpec.upto glitchLinearSpec)) glitchLinearUptoCard

/-- THE SECOND FORM's CARD OF 'ringdownlaw06.GlitchSplits'. -/
def glitchSplitsUptoCard : Claim7 := { stood := { row := glitchSplitsUptoRow, standIns := [], harness := (true, "b142abcd417079d96a0fdc72605cd29367ebaba13f0361d8726806704368a874"), looks := false }, kinds := [], alts := [], laidByText := true, laidKinds := [.data, .data, .data], laidTests := true, laidLooks := .later }
def GlitchSplitsUptoCardSaid : Prop := Claim7.holds Tryz.pinned (.plain (OpenSpec.upto glitchSplitsSpec)) glitchSplitsUptoCard

/-- THE SECOND FORM's CARD OF 'ringdownlaw06.GlitchTime'. -/
def glitchTimeUptoCard : Claim7 := { stood := { row := glitchTimeUptoRow, standIns := [], harness := (true, "b142abcd417079d96a0fdc72605cd29367ebaba13f0361d8726806704368a874"), looks := false }, kinds := [], alts := [], laidByText := true, laidKinds := [.data, .data, .data], laidTests := true, laidLooks := .later }
def GlitchTimeUptoCardSaid : Prop := Claim7.holds Tryz.pinned (.plain (OpenSpec.upto glitchTimeSpec)) glitchTimeUptoCard

/-- THE SECOND FORM's CARD OF 'ringdownlaw06.GlitchVetoes'. -/
def glitchVetoesUptoCard : Claim7 := { stood := { row := glitchVetoesUptoRow, standIns := [], harness := (true, "b142abcd417079d96a0fdc72605cd29367ebaba13f0361d8726806704368a874"), looks := false }, kinds := [], alts := [], laidByText := true, laidKinds := [.data, .data, .data], laidTests := true, laidLooks := .later }
def GlitchVetoesUptoCardSaid : Prop := Claim7.holds Tryz.pinned (.plain (OpenSpec.upto glitchVetoesSpec)) glitchVetoesUptoCard

/-- THE SECOND FORM's CARD OF 'ringdownlaw06.GlitchCounts'. -/
def glitchCountsUptoCard : Claim7 := { stood := { row := glitchCountsUptoRow, standIns := [], harness := (true, "b142abcd417079d96a0fdc72605cd29367ebaba13f0361d8726806704368a874"), looks := false }, kinds := [], alts := [], laidByText := true, laidKinds := [.data, .data, .data], laidTests := true, laidLooks := .later }
def GlitchCountsUptoCardSaid : Prop := Claim7.holds Tryz.pinned (.plain (OpenSpec.upto glitchCountsSpec)) glitchCountsUptoCard

/-- THE SECOND FORM's CARD OF 'ringdownlaw06.GlitchTiles'. -/
def glitchTilesUptoCard : Claim7 := { stood := { row := glitchTilesUptoRow, standIns := [], harness := (true, "b142abcd417079d96a0fdc72605cd29367ebaba13f0361d8726806704368a874"), looks := false }, kinds := [], alts := [], laidByText := true, laidKinds := [.data, .data, .data], laidTests := true, laidLooks := .later }
def GlitchTilesUptoCardSaid : Prop := Claim7.holds Tryz.pinned (.plain (OpenSpec.upto glitchTilesSpec)) glitchTilesUptoCard
end Rows
end Go.Proofs.YtdjaigpcfhbcmaaGreatDoor
