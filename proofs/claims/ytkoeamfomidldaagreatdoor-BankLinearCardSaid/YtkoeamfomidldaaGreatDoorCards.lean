/-
  DERIVED. GIVEN WITH THE SEED: THE CARDS: each row of YtkoeamfomidldaaGreatDoorRows.lean that lists a variable, with what it lists TIED to the program's text (the seventh form; the later family's looks); each row that meets fmt, with fmt's text TOLD by the authors' own Lean function (tested against real Go, not proved from fmt's source: count such statements apart). THE CARD IS WHAT COUNTS. Prove the row's statement (the work); the ties are given (YtkoeamfomidldaaGreatDoorTie.lean); close each card by the builder's one call (the guide's Derived/Test/ToyasCard.lean, 'card_holds'). Laid BY PROGRAM, IN A SANDBOX (cutbox-door.mjs). By AI agents, Wed Nov 11 2026. No macro, syntax, notation, axiom, sorry.
-/
import Derived.Test.YtkoeamfomidldaaGreatDoorRows
import GoSem.ClaimSeven
namespace Go.Proofs.YtkoeamfomidldaaGreatDoor
namespace Rows

/-- THE TIED CARD OF 'ringdownlaw07.BankPoints'. -/
def bankPointsCard : Claim7 := { stood := { row := bankPointsRow, standIns := [], harness := (true, "11cba940150defe5c9acde603eb5b645d11a1ee86ee6e536f2d453643589bb2f"), looks := true }, kinds := [], alts := [], laidByText := true, laidKinds := [.data, .data, .data, .sentinel, .sentinel, .data], laidTests := true, laidLooks := .later }
def BankPointsCardSaid : Prop := Claim7.holds Tryz.pinned (.plain (OpenSpec.ofChange bankPointsSpec)) bankPointsCard

/-- THE TIED CARD OF 'ringdownlaw07.BankProofs'. -/
def bankProofsCard : Claim7 := { stood := { row := bankProofsRow, standIns := [], harness := (true, "11cba940150defe5c9acde603eb5b645d11a1ee86ee6e536f2d453643589bb2f"), looks := true }, kinds := [], alts := [], laidByText := true, laidKinds := [.data, .data, .data, .sentinel, .sentinel, .data], laidTests := true, laidLooks := .later }
def BankProofsCardSaid : Prop := Claim7.holds Tryz.pinned (.plain (OpenSpec.ofChange bankProofsSpec)) bankProofsCard

/-- THE TIED CARD OF 'ringdownlaw07.BankBuilds'. -/
def bankBuildsCard : Claim7 := { stood := { row := bankBuildsRow, standIns := [], harness := (true, "11cba940150defe5c9acde603eb5b645d11a1ee86ee6e536f2d453643589bb2f"), looks := true }, kinds := [], alts := [], laidByText := true, laidKinds := [.data, .data, .data, .sentinel, .sentinel, .data], laidTests := true, laidLooks := .later }
def BankBuildsCardSaid : Prop := Claim7.holds Tryz.pinned (.plain (OpenSpec.ofChange bankBuildsSpec)) bankBuildsCard

/-- THE TIED CARD OF 'ringdownlaw07.BankHits'. -/
def bankHitsCard : Claim7 := { stood := { row := bankHitsRow, standIns := [], harness := (true, "11cba940150defe5c9acde603eb5b645d11a1ee86ee6e536f2d453643589bb2f"), looks := true }, kinds := [], alts := [], laidByText := true, laidKinds := [.data, .data, .data, .data], laidTests := true, laidLooks := .later }
def BankHitsCardSaid : Prop := Claim7.holds Tryz.pinned (.plain (OpenSpec.ofChange bankHitsSpec)) bankHitsCard

/-- THE TIED CARD OF 'ringdownlaw07.BankMatch'. -/
def bankMatchCard : Claim7 := { stood := { row := bankMatchRow, standIns := [], harness := (true, "11cba940150defe5c9acde603eb5b645d11a1ee86ee6e536f2d453643589bb2f"), looks := true }, kinds := [], alts := [], laidByText := true, laidKinds := [.data, .data, .data, .data], laidTests := true, laidLooks := .later }
def BankMatchCardSaid : Prop := Claim7.holds Tryz.pinned (.plain (OpenSpec.ofChange bankMatchSpec)) bankMatchCard

/-- THE TIED CARD OF 'ringdownlaw07.BankCovers'. -/
def bankCoversCard : Claim7 := { stood := { row := bankCoversRow, standIns := [], harness := (true, "11cba940150defe5c9acde603eb5b645d11a1ee86ee6e536f2d453643589bb2f"), looks := true }, kinds := [], alts := [], laidByText := true, laidKinds := [.data, .data, .data, .sentinel, .sentinel, .data], laidTests := true, laidLooks := .later }
def BankCoversCardSaid : Prop := Claim7.holds Tryz.pinned (.plain (OpenSpec.ofChange bankCoversSpec)) bankCoversCard

/-- THE TIED CARD OF 'ringdownlaw07.BankFewer'. -/
def bankFewerCard : Claim7 := { stood := { row := bankFewerRow, standIns := [], harness := (true, "11cba940150defe5c9acde603eb5b645d11a1ee86ee6e536f2d453643589bb2f"), looks := true }, kinds := [], alts := [], laidByText := true, laidKinds := [.data, .data, .data, .sentinel, .sentinel, .data], laidTests := true, laidLooks := .later }
def BankFewerCardSaid : Prop := Claim7.holds Tryz.pinned (.plain (OpenSpec.ofChange bankFewerSpec)) bankFewerCard

/-- THE TIED CARD OF 'ringdownlaw07.BankLinear'. -/
def bankLinearCard : Claim7 := { stood := { row := bankLinearRow, standIns := [], harness := (true, "11cba940150defe5c9acde603eb5b645d11a1ee86ee6e536f2d453643589bb2f"), looks := true }, kinds := [], alts := [], laidByText := true, laidKinds := [.data, .data, .data, .data], laidTests := true, laidLooks := .later }
def BankLinearCardSaid : Prop := Claim7.holds Tryz.pinned (.plain (OpenSpec.ofChange bankLinearSpec)) bankLinearCard

/-- THE TIED CARD OF 'ringdownlaw07.BankSure'. -/
def bankSureCard : Claim7 := { stood := { row := bankSureRow, standIns := [], harness := (true, "11cba940150defe5c9acde603eb5b645d11a1ee86ee6e536f2d453643589bb2f"), looks := true }, kinds := [], alts := [], laidByText := true, laidKinds := [.data, .data, .data, .data], laidTests := true, laidLooks := .later }
def BankSureCardSaid : Prop := Claim7.holds Tryz.pinned (.plain (OpenSpec.ofChange bankSureSpec)) bankSureCard

/-- THE TIED CARD OF 'ringdownlaw07.BankExact'. -/
def bankExactCard : Claim7 := { stood := { row := bankExactRow, standIns := [], harness := (true, "11cba940150defe5c9acde603eb5b645d11a1ee86ee6e536f2d453643589bb2f"), looks := true }, kinds := [], alts := [], laidByText := true, laidKinds := [.data, .data, .data, .data], laidTests := true, laidLooks := .later }
def BankExactCardSaid : Prop := Claim7.holds Tryz.pinned (.plain (OpenSpec.ofChange bankExactSpec)) bankExactCard

/-- THE TIED CARD OF 'ringdownlaw07.BankChosen'. -/
def bankChosenCard : Claim7 := { stood := { row := bankChosenRow, standIns := [], harness := (true, "11cba940150defe5c9acde603eb5b645d11a1ee86ee6e536f2d453643589bb2f"), looks := true }, kinds := [], alts := [], laidByText := true, laidKinds := [.data, .data, .data, .data], laidTests := true, laidLooks := .later }
def BankChosenCardSaid : Prop := Claim7.holds Tryz.pinned (.plain (OpenSpec.ofChange bankChosenSpec)) bankChosenCard

/-- THE TIED CARD OF 'ringdownlaw07.BankKnown'. -/
def bankKnownCard : Claim7 := { stood := { row := bankKnownRow, standIns := [], harness := (true, "11cba940150defe5c9acde603eb5b645d11a1ee86ee6e536f2d453643589bb2f"), looks := true }, kinds := [], alts := [], laidByText := true, laidKinds := [.data, .data, .data, .sentinel, .sentinel, .data], laidTests := true, laidLooks := .later }
def BankKnownCardSaid : Prop := Claim7.holds Tryz.pinned (.plain (OpenSpec.ofChange bankKnownSpec)) bankKnownCard

/-- THE SECOND FORM's CARD OF 'ringdownlaw07.BankPoints'. -/
def bankPointsUptoCard : Claim7 := { stood := { row := bankPointsUptoRow, standIns := [], harness := (true, "11cba940150defe5c9acde603eb5b645d11a1ee86ee6e536f2d453643589bb2f"), looks := true }, kinds := [], alts := [], laidByText := true, laidKinds := [.data, .data, .data, .sentinel, .sentinel, .data], laidTests := true, laidLooks := .later }
def BankPointsUptoCardSaid : Prop := Claim7.holds Tryz.pinned (.plain (OpenSpec.upto bankPointsSpec)) bankPointsUptoCard

/-- THE SECOND FORM's CARD OF 'ringdownlaw07.BankProofs'. -/
def bankProofsUptoCard : Claim7 := { stood := { row := bankProofsUptoRow, standIns := [], harness := (true, "11cba940150defe5c9acde603eb5b645d11a1ee86ee6e536f2d453643589bb2f"), looks := true }, kinds := [], alts := [], laidByText := true, laidKinds := [.data, .data, .data, .sentinel, .sentinel, .data], laidTests := true, laidLooks := .later }
def BankProofsUptoCardSaid : Prop := Claim7.holds Tryz.pinned (.plain (OpenSpec.upto bankProofsSpec)) bankProofsUptoCard

/-- THE SECOND FORM's CARD OF 'ringdownlaw07.BankBuilds'. -/
def bankBuildsUptoCard : Claim7 := { stood := { row := bankBuildsUptoRow, standIns := [], harness := (true, "11cba940150defe5c9acde603eb5b645d11a1ee86ee6e536f2d453643589bb2f"), looks := true }, kinds := [], alts := [], laidByText := true, laidKinds := [.data, .data, .data, .sentinel, .sentinel, .data], laidTests := true, laidLooks := .later }
def BankBuildsUptoCardSaid : Prop := Claim7.holds Tryz.pinned (.plain (OpenSpec.upto bankBuildsSpec)) bankBuildsUptoCard

/-- THE SECOND FORM's CARD OF 'ringdownlaw07.BankHits'. -/
def bankHitsUptoCard : Claim7 := { stood := { row := bankHitsUptoRow, standIns := [], harness := (true, "11cba940150defe5c9acde603eb5b645d11a1ee86ee6e536f2d453643589bb2f"), looks := true }, kinds := [], alts := [], laidByText := true, laidKinds := [.data, .data, .data, .data], laidTests := true, laidLooks := .later }
def BankHitsUptoCardSaid : Prop := Claim7.holds Tryz.pinned (.plain (OpenSpec.upto bankHitsSpec)) bankHitsUptoCard

/-- THE SECOND FORM's CARD OF 'ringdownlaw07.BankMatch'. -/
def bankMatchUptoCard : Claim7 := { stood := { row := bankMatchUptoRow, standIns := [], harness := (true, "11cba940150defe5c9acde603eb5b645d11a1ee86ee6e536f2d453643589bb2f"), looks := true }, kinds := [], alts := [], laidByText := true, laidKinds := [.data, .data, .data, .data], laidTests := true, laidLooks := .later }
def BankMatchUptoCardSaid : Prop := Claim7.holds Tryz.pinned (.plain (OpenSpec.upto bankMatchSpec)) bankMatchUptoCard

/-- THE SECOND FORM's CARD OF 'ringdownlaw07.BankCovers'. -/
def bankCoversUptoCard : Claim7 := { stood := { row := bankCoversUptoRow, standIns := [], harness := (true, "11cba940150defe5c9acde603eb5b645d11a1ee86ee6e536f2d453643589bb2f"), looks := true }, kinds := [], alts := [], laidByText := true, laidKinds := [.data, .data, .data, .sentinel, .sentinel, .data], laidTests := true, laidLooks := .later }
def BankCoversUptoCardSaid : Prop := Claim7.holds Tryz.pinned (.plain (OpenSpec.upto bankCoversSpec)) bankCoversUptoCard

/-- THE SECOND FORM's CARD OF 'ringdownlaw07.BankFewer'. -/
def bankFewerUptoCard : Claim7 := { stood := { row := bankFewerUptoRow, standIns := [], harness := (true, "11cba940150defe5c9acde603eb5b645d11a1ee86ee6e536f2d453643589bb2f"), looks := true }, kinds := [], alts := [], laidByText := true, laidKinds := [.data, .data, .data, .sentinel, .sentinel, .data], laidTests := true, laidLooks := .later }
def BankFewerUptoCardSaid : Prop := Claim7.holds Tryz.pinned (.plain (OpenSpec.upto bankFewerSpec)) bankFewerUptoCard

/-- THE SECOND FORM's CARD OF 'ringdownlaw07.BankLinear'. -/
def bankLinearUptoCard : Claim7 := { stood := { row := bankLinearUptoRow, standIns := [], harness := (true, "11cba940150defe5c9acde603eb5b645d11a1ee86ee6e536f2d453643589bb2f"), looks := true }, kinds := [], alts := [], laidByText := true, laidKinds := [.data, .data, .data, .data], laidTests := true, laidLooks := .later }
def BankLinearUptoCardSaid : Prop := Claim7.holds Tryz.pinned (.plain (OpenSpec.upto bankLinearSpec)) bankLinearUptoCard

/-- THE SECOND FORM's CARD OF 'ringdownlaw07.BankSure'. -/
def bankSureUptoCard : Claim7 := { stood := { row := bankSureUptoRow, standIns := [], harness := (true, "11cba940150defe5c9acde603eb5b645d11a1ee86ee6e536f2d453643589bb2f"), looks := true }, kinds := [], alts := [], laidByText := true, laidKinds := [.data, .data, .data, .data], laidTests := true, laidLooks := .later }
def BankSureUptoCardSaid : Prop := Claim7.holds Tryz.pinned (.plain (OpenSpec.upto bankSureSpec)) bankSureUptoCard

/-- THE SECOND FORM's CARD OF 'ringdownlaw07.BankExact'. -/
def bankExactUptoCard : Claim7 := { stood := { row := bankExactUptoRow, standIns := [], harness := (true, "11cba940150defe5c9acde603eb5b645d11a1ee86ee6e536f2d453643589bb2f"), looks := true }, kinds := [], alts := [], laidByText := true, laidKinds := [.data, .data, .data, .data], laidTests := true, laidLooks := .later }
def BankExactUptoCardSaid : Prop := Claim7.holds Tryz.pinned (.plain (OpenSpec.upto bankExactSpec)) bankExactUptoCard

/-- THE SECOND FORM's CARD OF 'ringdownlaw07.BankChosen'. -/
def bankChosenUptoCard : Claim7 := { stood := { row := bankChosenUptoRow, standIns := [], harness := (true, "11cba940150defe5c9acde603eb5b645d11a1ee86ee6e536f2d453643589bb2f"), looks := true }, kinds := [], alts := [], laidByText := true, laidKinds := [.data, .data, .data, .data], laidTests := true, laidLooks := .later }
def BankChosenUptoCardSaid : Prop := Claim7.holds Tryz.pinned (.plain (OpenSpec.upto bankChosenSpec)) bankChosenUptoCard

/-- THE SECOND FORM's CARD OF 'ringdownlaw07.BankKnown'. -/
def bankKnownUptoCard : Claim7 := { stood := { row := bankKnownUptoRow, standIns := [], harness := (true, "11cba940150defe5c9acde603eb5b645d11a1ee86ee6e536f2d453643589bb2f"), looks := true }, kinds := [], alts := [], laidByText := true, laidKinds := [.data, .data, .data, .sentinel, .sentinel, .data], laidTests := true, laidLooks := .later }
def BankKnownUptoCardSaid : Prop := Claim7.holds Tryz.pinned (.plain (OpenSpec.upto bankKnownSpec)) bankKnownUptoCard
end Rows
end Go.Proofs.YtkoeamfomidldaaGreatDoor
