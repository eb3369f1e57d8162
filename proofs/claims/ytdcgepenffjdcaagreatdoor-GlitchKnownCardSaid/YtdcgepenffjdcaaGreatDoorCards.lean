/-
  DERIVED. GIVEN WITH THE SEED: THE CARDS: each row of YtdcgepenffjdcaaGreatDoorRows.lean that lists a variable, with what it lists TIED to the program's text (the seventh form; the later family's looks); each row that meets fmt, with fmt's text TOLD by the authors' own Lean function (tested against real Go, not proved from fmt's source: count such statements apart). THE CARD IS WHAT COUNTS. Prove the row's statement (the work); the ties are given (YtdcgepenffjdcaaGreatDoorTie.lean); close each card by the builder's one call (the guide's Derived/Test/ToyasCard.lean, 'card_holds'). Laid BY PROGRAM, IN A SANDBOX (cutbox-door.mjs). By AI agents, Wed Nov 11 2026. No macro, syntax, notation, axiom, sorry.
-/
import Derived.Test.YtdcgepenffjdcaaGreatDoorRows
import GoSem.ClaimSeven
namespace Go.Proofs.YtdcgepenffjdcaaGreatDoor
namespace Rows

/-- THE TIED CARD OF 'ringdownlaw06.GlitchTransforms'. -/
def glitchTransformsCard : Claim7 := { stood := { row := glitchTransformsRow, standIns := [], harness := (true, "77a50dff94a748116c9f879ac43f8c4f218d277594e2838f87f593c4f20d0ae8"), looks := false }, kinds := [], alts := [], laidByText := true, laidKinds := [.data, .data, .data], laidTests := true, laidLooks := .later }
def GlitchTransformsCardSaid : Prop := Claim7.holds Tryz.pinned (.plain (OpenSpec.ofChange glitchTransformsSpec)) glitchTransformsCard

/-- THE TIED CARD OF 'ringdownlaw06.GlitchTiles'. -/
def glitchTilesCard : Claim7 := { stood := { row := glitchTilesRow, standIns := [], harness := (true, "77a50dff94a748116c9f879ac43f8c4f218d277594e2838f87f593c4f20d0ae8"), looks := false }, kinds := [], alts := [], laidByText := true, laidKinds := [.data, .data, .data], laidTests := true, laidLooks := .later }
def GlitchTilesCardSaid : Prop := Claim7.holds Tryz.pinned (.plain (OpenSpec.ofChange glitchTilesSpec)) glitchTilesCard

/-- THE TIED CARD OF 'ringdownlaw06.GlitchParts'. -/
def glitchPartsCard : Claim7 := { stood := { row := glitchPartsRow, standIns := [], harness := (true, "77a50dff94a748116c9f879ac43f8c4f218d277594e2838f87f593c4f20d0ae8"), looks := false }, kinds := [], alts := [], laidByText := true, laidKinds := [.data, .data, .data], laidTests := true, laidLooks := .later }
def GlitchPartsCardSaid : Prop := Claim7.holds Tryz.pinned (.plain (OpenSpec.ofChange glitchPartsSpec)) glitchPartsCard

/-- THE TIED CARD OF 'ringdownlaw06.GlitchVetoes'. -/
def glitchVetoesCard : Claim7 := { stood := { row := glitchVetoesRow, standIns := [], harness := (true, "77a50dff94a748116c9f879ac43f8c4f218d277594e2838f87f593c4f20d0ae8"), looks := false }, kinds := [], alts := [], laidByText := true, laidKinds := [.data, .data, .data], laidTests := true, laidLooks := .later }
def GlitchVetoesCardSaid : Prop := Claim7.holds Tryz.pinned (.plain (OpenSpec.ofChange glitchVetoesSpec)) glitchVetoesCard

/-- THE TIED CARD OF 'ringdownlaw06.GlitchRanks'. -/
def glitchRanksCard : Claim7 := { stood := { row := glitchRanksRow, standIns := [], harness := (true, "77a50dff94a748116c9f879ac43f8c4f218d277594e2838f87f593c4f20d0ae8"), looks := false }, kinds := [], alts := [], laidByText := true, laidKinds := [.data, .data, .data], laidTests := true, laidLooks := .later }
def GlitchRanksCardSaid : Prop := Claim7.holds Tryz.pinned (.plain (OpenSpec.ofChange glitchRanksSpec)) glitchRanksCard

/-- THE TIED CARD OF 'ringdownlaw06.GlitchBack'. -/
def glitchBackCard : Claim7 := { stood := { row := glitchBackRow, standIns := [], harness := (true, "77a50dff94a748116c9f879ac43f8c4f218d277594e2838f87f593c4f20d0ae8"), looks := false }, kinds := [], alts := [], laidByText := true, laidKinds := [.data, .data, .data], laidTests := true, laidLooks := .later }
def GlitchBackCardSaid : Prop := Claim7.holds Tryz.pinned (.plain (OpenSpec.ofChange glitchBackSpec)) glitchBackCard

/-- THE TIED CARD OF 'ringdownlaw06.GlitchEnergies'. -/
def glitchEnergiesCard : Claim7 := { stood := { row := glitchEnergiesRow, standIns := [], harness := (true, "77a50dff94a748116c9f879ac43f8c4f218d277594e2838f87f593c4f20d0ae8"), looks := false }, kinds := [], alts := [], laidByText := true, laidKinds := [.data, .data, .data], laidTests := true, laidLooks := .later }
def GlitchEnergiesCardSaid : Prop := Claim7.holds Tryz.pinned (.plain (OpenSpec.ofChange glitchEnergiesSpec)) glitchEnergiesCard

/-- THE TIED CARD OF 'ringdownlaw06.GlitchCounts'. -/
def glitchCountsCard : Claim7 := { stood := { row := glitchCountsRow, standIns := [], harness := (true, "77a50dff94a748116c9f879ac43f8c4f218d277594e2838f87f593c4f20d0ae8"), looks := false }, kinds := [], alts := [], laidByText := true, laidKinds := [.data, .data, .data], laidTests := true, laidLooks := .later }
def GlitchCountsCardSaid : Prop := Claim7.holds Tryz.pinned (.plain (OpenSpec.ofChange glitchCountsSpec)) glitchCountsCard

/-- THE TIED CARD OF 'ringdownlaw06.GlitchSplits'. -/
def glitchSplitsCard : Claim7 := { stood := { row := glitchSplitsRow, standIns := [], harness := (true, "77a50dff94a748116c9f879ac43f8c4f218d277594e2838f87f593c4f20d0ae8"), looks := false }, kinds := [], alts := [], laidByText := true, laidKinds := [.data, .data, .data], laidTests := true, laidLooks := .later }
def GlitchSplitsCardSaid : Prop := Claim7.holds Tryz.pinned (.plain (OpenSpec.ofChange glitchSplitsSpec)) glitchSplitsCard

/-- THE TIED CARD OF 'ringdownlaw06.GlitchCaught'. -/
def glitchCaughtCard : Claim7 := { stood := { row := glitchCaughtRow, standIns := [], harness := (true, "77a50dff94a748116c9f879ac43f8c4f218d277594e2838f87f593c4f20d0ae8"), looks := false }, kinds := [], alts := [], laidByText := true, laidKinds := [.data, .data, .data], laidTests := true, laidLooks := .later }
def GlitchCaughtCardSaid : Prop := Claim7.holds Tryz.pinned (.plain (OpenSpec.ofChange glitchCaughtSpec)) glitchCaughtCard

/-- THE TIED CARD OF 'ringdownlaw06.GlitchTime'. -/
def glitchTimeCard : Claim7 := { stood := { row := glitchTimeRow, standIns := [], harness := (true, "77a50dff94a748116c9f879ac43f8c4f218d277594e2838f87f593c4f20d0ae8"), looks := false }, kinds := [], alts := [], laidByText := true, laidKinds := [.data, .data, .data], laidTests := true, laidLooks := .later }
def GlitchTimeCardSaid : Prop := Claim7.holds Tryz.pinned (.plain (OpenSpec.ofChange glitchTimeSpec)) glitchTimeCard

/-- THE TIED CARD OF 'ringdownlaw06.GlitchKnown'. -/
def glitchKnownCard : Claim7 := { stood := { row := glitchKnownRow, standIns := [], harness := (true, "77a50dff94a748116c9f879ac43f8c4f218d277594e2838f87f593c4f20d0ae8"), looks := false }, kinds := [], alts := [], laidByText := true, laidKinds := [.data, .data, .data], laidTests := true, laidLooks := .later }
def GlitchKnownCardSaid : Prop := Claim7.holds Tryz.pinned (.plain (OpenSpec.ofChange glitchKnownSpec)) glitchKnownCard

/-- THE SECOND FORM's CARD OF 'ringdownlaw06.GlitchTransforms'. -/
def glitchTransformsUptoCard : Claim7 := { stood := { row := glitchTransformsUptoRow, standIns := [], harness := (true, "77a50dff94a748116c9f879ac43f8c4f218d277594e2838f87f593c4f20d0ae8"), looks := false }, kinds := [], alts := [], laidByText := true, laidKinds := [.data, .data, .data], laidTests := true, laidLooks := .later }
def GlitchTransformsUptoCardSaid : Prop := Claim7.holds Tryz.pinned (.plain (OpenSpec.upto glitchTransformsSpec)) glitchTransformsUptoCard

/-- THE SECOND FORM's CARD OF 'ringdownlaw06.GlitchTiles'. -/
def glitchTilesUptoCard : Claim7 := { stood := { row := glitchTilesUptoRow, standIns := [], harness := (true, "77a50dff94a748116c9f879ac43f8c4f218d277594e2838f87f593c4f20d0ae8"), looks := false }, kinds := [], alts := [], laidByText := true, laidKinds := [.data, .data, .data], laidTests := true, laidLooks := .later }
def GlitchTilesUptoCardSaid : Prop := Claim7.holds Tryz.pinned (.plain (OpenSpec.upto glitchTilesSpec)) glitchTilesUptoCard

/-- THE SECOND FORM's CARD OF 'ringdownlaw06.GlitchParts'. -/
def glitchPartsUptoCard : Claim7 := { stood := { row := glitchPartsUptoRow, standIns := [], harness := (true, "77a50dff94a748116c9f879ac43f8c4f218d277594e2838f87f593c4f20d0ae8"), looks := false }, kinds := [], alts := [], laidByText := true, laidKinds := [.data, .data, .data], laidTests := true, laidLooks := .later }
def GlitchPartsUptoCardSaid : Prop := Claim7.holds Tryz.pinned (.plain (OpenSpec.upto glitchPartsSpec)) glitchPartsUptoCard

/-- THE SECOND FORM's CARD OF 'ringdownlaw06.GlitchVetoes'. -/
def glitchVetoesUptoCard : Claim7 := { stood := { row := glitchVetoesUptoRow, standIns := [], harness := (true, "77a50dff94a748116c9f879ac43f8c4f218d277594e2838f87f593c4f20d0ae8"), looks := false }, kinds := [], alts := [], laidByText := true, laidKinds := [.data, .data, .data], laidTests := true, laidLooks := .later }
def GlitchVetoesUptoCardSaid : Prop := Claim7.holds Tryz.pinned (.plain (OpenSpec.upto glitchVetoesSpec)) glitchVetoesUptoCard

/-- THE SECOND FORM's CARD OF 'ringdownlaw06.GlitchRanks'. -/
def glitchRanksUptoCard : Claim7 := { stood := { row := glitchRanksUptoRow, standIns := [], harness := (true, "77a50dff94a748116c9f879ac43f8c4f218d277594e2838f87f593c4f20d0ae8"), looks := false }, kinds := [], alts := [], laidByText := true, laidKinds := [.data, .data, .data], laidTests := true, laidLooks := .later }
def GlitchRanksUptoCardSaid : Prop := Claim7.holds Tryz.pinned (.plain (OpenSpec.upto glitchRanksSpec)) glitchRanksUptoCard

/-- THE SECOND FORM's CARD OF 'ringdownlaw06.GlitchBack'. -/
def glitchBackUptoCard : Claim7 := { stood := { row := glitchBackUptoRow, standIns := [], harness := (true, "77a50dff94a748116c9f879ac43f8c4f218d277594e2838f87f593c4f20d0ae8"), looks := false }, kinds := [], alts := [], laidByText := true, laidKinds := [.data, .data, .data], laidTests := true, laidLooks := .later }
def GlitchBackUptoCardSaid : Prop := Claim7.holds Tryz.pinned (.plain (OpenSpec.upto glitchBackSpec)) glitchBackUptoCard

/-- THE SECOND FORM's CARD OF 'ringdownlaw06.GlitchEnergies'. -/
def glitchEnergiesUptoCard : Claim7 := { stood := { row := glitchEnergiesUptoRow, standIns := [], harness := (true, "77a50dff94a748116c9f879ac43f8c4f218d277594e2838f87f593c4f20d0ae8"), looks := false }, kinds := [], alts := [], laidByText := true, laidKinds := [.data, .data, .data], laidTests := true, laidLooks := .later }
def GlitchEnergiesUptoCardSaid : Prop := Claim7.holds Tryz.pinned (.plain (OpenSpec.upto glitchEnergiesSpec)) glitchEnergiesUptoCard

/-- THE SECOND FORM's CARD OF 'ringdownlaw06.GlitchCounts'. -/
def glitchCountsUptoCard : Claim7 := { stood := { row := glitchCountsUptoRow, standIns := [], harness := (true, "77a50dff94a748116c9f879ac43f8c4f218d277594e2838f87f593c4f20d0ae8"), looks := false }, kinds := [], alts := [], laidByText := true, laidKinds := [.data, .data, .data], laidTests := true, laidLooks := .later }
def GlitchCountsUptoCardSaid : Prop := Claim7.holds Tryz.pinned (.plain (OpenSpec.upto glitchCountsSpec)) glitchCountsUptoCard

/-- THE SECOND FORM's CARD OF 'ringdownlaw06.GlitchSplits'. -/
def glitchSplitsUptoCard : Claim7 := { stood := { row := glitchSplitsUptoRow, standIns := [], harness := (true, "77a50dff94a748116c9f879ac43f8c4f218d277594e2838f87f593c4f20d0ae8"), looks := false }, kinds := [], alts := [], laidByText := true, laidKinds := [.data, .data, .data], laidTests := true, laidLooks := .later }
def GlitchSplitsUptoCardSaid : Prop := Claim7.holds Tryz.pinned (.plain (OpenSpec.upto glitchSplitsSpec)) glitchSplitsUptoCard

/-- THE SECOND FORM's CARD OF 'ringdownlaw06.GlitchCaught'. -/
def glitchCaughtUptoCard : Claim7 := { stood := { row := glitchCaughtUptoRow, standIns := [], harness := (true, "77a50dff94a748116c9f879ac43f8c4f218d277594e2838f87f593c4f20d0ae8"), looks := false }, kinds := [], alts := [], laidByText := true, laidKinds := [.data, .data, .data], laidTests := true, laidLooks := .later }
def GlitchCaughtUptoCardSaid : Prop := Claim7.holds Tryz.pinned (.plain (OpenSpec.upto glitchCaughtSpec)) glitchCaughtUptoCard

/-- THE SECOND FORM's CARD OF 'ringdownlaw06.GlitchTime'. -/
def glitchTimeUptoCard : Claim7 := { stood := { row := glitchTimeUptoRow, standIns := [], harness := (true, "77a50dff94a748116c9f879ac43f8c4f218d277594e2838f87f593c4f20d0ae8"), looks := false }, kinds := [], alts := [], laidByText := true, laidKinds := [.data, .data, .data], laidTests := true, laidLooks := .later }
def GlitchTimeUptoCardSaid : Prop := Claim7.holds Tryz.pinned (.plain (OpenSpec.upto glitchTimeSpec)) glitchTimeUptoCard

/-- THE SECOND FORM's CARD OF 'ringdownlaw06.GlitchKnown'. -/
def glitchKnownUptoCard : Claim7 := { stood := { row := glitchKnownUptoRow, standIns := [], harness := (true, "77a50dff94a748116c9f879ac43f8c4f218d277594e2838f87f593c4f20d0ae8"), looks := false }, kinds := [], alts := [], laidByText := true, laidKinds := [.data, .data, .data], laidTests := true, laidLooks := .later }
def GlitchKnownUptoCardSaid : Prop := Claim7.holds Tryz.pinned (.plain (OpenSpec.upto glitchKnownSpec)) glitchKnownUptoCard
end Rows
end Go.Proofs.YtdcgepenffjdcaaGreatDoor
