/-
  DERIVED. GIVEN WITH THE SEED: THE CARDS: each row of YtjddbfpinjjkkaaGreatDoorRows.lean that lists a variable, with what it lists TIED to the program's text (the seventh form; the later family's looks); each row that meets fmt, with fmt's text TOLD by the authors' own Lean function (tested against real Go, not proved from fmt's source: count such statements apart). THE CARD IS WHAT COUNTS. Prove the row's statement (the work); the ties are given (YtjddbfpinjjkkaaGreatDoorTie.lean); close each card by the builder's one call (the guide's Derived/Test/ToyasCard.lean, 'card_holds'). Laid BY PROGRAM, IN A SANDBOX (cutbox-door.mjs). By AI agents, Wed Nov 11 2026. No macro, syntax, notation, axiom, sorry.
-/
import Derived.Test.YtjddbfpinjjkkaaGreatDoorRows
import GoSem.ClaimSeven
namespace Go.Proofs.YtjddbfpinjjkkaaGreatDoor
namespace Rows

/-- THE TIED CARD OF 'ringdownlaw06.GlitchTime'. -/
def glitchTimeCard : Claim7 := { stood := { row := glitchTimeRow, standIns := [], harness := (true, "1131d1ac864a37fe8b818f21c624006207e63fb412855a0e2199f199590859db"), looks := false }, kinds := [], alts := [], laidByText := true, laidKinds := [.data, .data, .data], laidTests := true, laidLooks := .later }
def GlitchTimeCardSaid : Prop := Claim7.holds Tryz.pinned (.plain (OpenSpec.ofChange glitchTimeSpec)) glitchTimeCard

/-- THE TIED CARD OF 'ringdownlaw06.GlitchVetoes'. -/
def glitchVetoesCard : Claim7 := { stood := { row := glitchVetoesRow, standIns := [], harness := (true, "1131d1ac864a37fe8b818f21c624006207e63fb412855a0e2199f199590859db"), looks := false }, kinds := [], alts := [], laidByText := true, laidKinds := [.data, .data, .data], laidTests := true, laidLooks := .later }
def GlitchVetoesCardSaid : Prop := Claim7.holds Tryz.pinned (.plain (OpenSpec.ofChange glitchVetoesSpec)) glitchVetoesCard

/-- THE TIED CARD OF 'ringdownlaw06.GlitchCaught'. -/
def glitchCaughtCard : Claim7 := { stood := { row := glitchCaughtRow, standIns := [], harness := (true, "1131d1ac864a37fe8b818f21c624006207e63fb412855a0e2199f199590859db"), looks := false }, kinds := [], alts := [], laidByText := true, laidKinds := [.data, .data, .data], laidTests := true, laidLooks := .later }
def GlitchCaughtCardSaid : Prop := Claim7.holds Tryz.pinned (.plain (OpenSpec.ofChange glitchCaughtSpec)) glitchCaughtCard

/-- THE TIED CARD OF 'ringdownlaw06.GlitchCounts'. -/
def glitchCountsCard : Claim7 := { stood := { row := glitchCountsRow, standIns := [], harness := (true, "1131d1ac864a37fe8b818f21c624006207e63fb412855a0e2199f199590859db"), looks := false }, kinds := [], alts := [], laidByText := true, laidKinds := [.data, .data, .data], laidTests := true, laidLooks := .later }
def GlitchCountsCardSaid : Prop := Claim7.holds Tryz.pinned (.plain (OpenSpec.ofChange glitchCountsSpec)) glitchCountsCard

/-- THE TIED CARD OF 'ringdownlaw06.GlitchRanks'. -/
def glitchRanksCard : Claim7 := { stood := { row := glitchRanksRow, standIns := [], harness := (true, "1131d1ac864a37fe8b818f21c624006207e63fb412855a0e2199f199590859db"), looks := false }, kinds := [], alts := [], laidByText := true, laidKinds := [.data, .data, .data], laidTests := true, laidLooks := .later }
def GlitchRanksCardSaid : Prop := Claim7.holds Tryz.pinned (.plain (OpenSpec.ofChange glitchRanksSpec)) glitchRanksCard

/-- THE TIED CARD OF 'ringdownlaw06.GlitchTiles'. -/
def glitchTilesCard : Claim7 := { stood := { row := glitchTilesRow, standIns := [], harness := (true, "1131d1ac864a37fe8b818f21c624006207e63fb412855a0e2199f199590859db"), looks := false }, kinds := [], alts := [], laidByText := true, laidKinds := [.data, .data, .data], laidTests := true, laidLooks := .later }
def GlitchTilesCardSaid : Prop := Claim7.holds Tryz.pinned (.plain (OpenSpec.ofChange glitchTilesSpec)) glitchTilesCard

/-- THE SECOND FORM's CARD OF 'ringdownlaw06.GlitchTime'. -/
def glitchTimeUptoCard : Claim7 := { stood := { row := glitchTimeUptoRow, standIns := [], harness := (true, "1131d1ac864a37fe8b818f21c624006207e63fb412855a0e2199f199590859db"), looks := false }, kinds := [], alts := [], laidByText := true, laidKinds := [.data, .data, .data], laidTests := true, laidLooks := .later }
def GlitchTimeUptoCardSaid : Prop := Claim7.holds Tryz.pinned (.plain (OpenSpec.upto glitchTimeSpec)) glitchTimeUptoCard

/-- THE SECOND FORM's CARD OF 'ringdownlaw06.GlitchVetoes'. -/
def glitchVetoesUptoCard : Claim7 := { stood := { row := glitchVetoesUptoRow, standIns := [], harness := (true, "1131d1ac864a37fe8b818f21c624006207e63fb412855a0e2199f199590859db"), looks := false }, kinds := [], alts := [], laidByText := true, laidKinds := [.data, .data, .data], laidTests := true, laidLooks := .later }
def GlitchVetoesUptoCardSaid : Prop := Claim7.holds Tryz.pinned (.plain (OpenSpec.upto glitchVetoesSpec)) glitchVetoesUptoCard

/-- THE SECOND FORM's CARD OF 'ringdownlaw06.GlitchCaught'. -/
def glitchCaughtUptoCard : Claim7 := { stood := { row := glitchCaughtUptoRow, standIns := [], harness := (true, "1131d1ac864a37fe8b818f21c624006207e63fb412855a0e2199f199590859db"), looks := false }, kinds := [], alts := [], laidByText := true, laidKinds := [.data, .data, .data], laidTests := true, laidLooks := .later }
def GlitchCaughtUptoCardSaid : Prop := Claim7.holds Tryz.pinned (.plain (OpenSpec.upto glitchCaughtSpec)) glitchCaughtUptoCard

/-- THE SECOND FORM's CARD OF 'ringdownlaw06.GlitchCounts'. -/
def glitchCountsUptoCard : Claim7 := { stood := { row := glitchCountsUptoRow, standIns := [], harness := (true, "1131d1ac864a37fe8b818f21c624006207e63fb412855a0e2199f199590859db"), looks := false }, kinds := [], alts := [], laidByText := true, laidKinds := [.data, .data, .data], laidTests := true, laidLooks := .later }
def GlitchCountsUptoCardSaid : Prop := Claim7.holds Tryz.pinned (.plain (OpenSpec.upto glitchCountsSpec)) glitchCountsUptoCard

/-- THE SECOND FORM's CARD OF 'ringdownlaw06.GlitchRanks'. -/
def glitchRanksUptoCard : Claim7 := { stood := { row := glitchRanksUptoRow, standIns := [], harness := (true, "1131d1ac864a37fe8b818f21c624006207e63fb412855a0e2199f199590859db"), looks := false }, kinds := [], alts := [], laidByText := true, laidKinds := [.data, .data, .data], laidTests := true, laidLooks := .later }
def GlitchRanksUptoCardSaid : Prop := Claim7.holds Tryz.pinned (.plain (OpenSpec.upto glitchRanksSpec)) glitchRanksUptoCard

/-- THE SECOND FORM's CARD OF 'ringdownlaw06.GlitchTiles'. -/
def glitchTilesUptoCard : Claim7 := { stood := { row := glitchTilesUptoRow, standIns := [], harness := (true, "1131d1ac864a37fe8b818f21c624006207e63fb412855a0e2199f199590859db"), looks := false }, kinds := [], alts := [], laidByText := true, laidKinds := [.data, .data, .data], laidTests := true, laidLooks := .later }
def GlitchTilesUptoCardSaid : Prop := Claim7.holds Tryz.pinned (.plain (OpenSpec.upto glitchTilesSpec)) glitchTilesUptoCard
end Rows
end Go.Proofs.YtjddbfpinjjkkaaGreatDoor
