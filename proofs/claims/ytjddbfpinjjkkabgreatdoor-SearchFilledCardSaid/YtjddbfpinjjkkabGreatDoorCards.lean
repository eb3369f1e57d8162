/-
  DERIVED. GIVEN WITH THE SEED: THE CARDS: each row of YtjddbfpinjjkkabGreatDoorRows.lean that lists a variable, with what it lists TIED to the program's text (the seventh form; the later family's looks); each row that meets fmt, with fmt's text TOLD by the authors' own Lean function (tested against real Go, not proved from fmt's source: count such statements apart). THE CARD IS WHAT COUNTS. Prove the row's statement (the work); the ties are given (YtjddbfpinjjkkabGreatDoorTie.lean); close each card by the builder's one call (the guide's Derived/Test/ToyasCard.lean, 'card_holds'). Laid BY PROGRAM, IN A SANDBOX (cutbox-door.mjs). By AI agents, Wed Nov 11 2026. No macro, syntax, notation, axiom, sorry.
-/
import Derived.Test.YtjddbfpinjjkkabGreatDoorRows
import GoSem.ClaimSeven
namespace Go.Proofs.YtjddbfpinjjkkabGreatDoor
namespace Rows

/-- THE TIED CARD OF 'ringdownlaw07.BankBands'. -/
def bankBandsCard : Claim7 := { stood := { row := bankBandsRow, standIns := [], harness := (true, "90eda6ba73e2c00c46a2201e48ddeab636ed9c7c516c5d5d4928c07cdcce286f"), looks := false }, kinds := [], alts := [], laidByText := true, laidKinds := [.data, .data, .data, .data], laidTests := true, laidLooks := .later }
def BankBandsCardSaid : Prop := Claim7.holds Tryz.pinned (.plain (OpenSpec.ofChange bankBandsSpec)) bankBandsCard

/-- THE TIED CARD OF 'ringdownlaw07.BankSure'. -/
def bankSureCard : Claim7 := { stood := { row := bankSureRow, standIns := [], harness := (true, "90eda6ba73e2c00c46a2201e48ddeab636ed9c7c516c5d5d4928c07cdcce286f"), looks := false }, kinds := [], alts := [], laidByText := true, laidKinds := [.data, .data, .data, .data], laidTests := true, laidLooks := .later }
def BankSureCardSaid : Prop := Claim7.holds Tryz.pinned (.plain (OpenSpec.ofChange bankSureSpec)) bankSureCard

/-- THE TIED CARD OF 'ringdownlaw08.SearchFilled'. -/
def searchFilledCard : Claim7 := { stood := { row := searchFilledRow, standIns := [], harness := (true, "90eda6ba73e2c00c46a2201e48ddeab636ed9c7c516c5d5d4928c07cdcce286f"), looks := false }, kinds := [], alts := [], laidByText := true, laidKinds := [.data], laidTests := true, laidLooks := .later }
def SearchFilledCardSaid : Prop := Claim7.holds Tryz.pinned (.plain (OpenSpec.ofChange searchFilledSpec)) searchFilledCard

/-- THE SECOND FORM's CARD OF 'ringdownlaw07.BankBands'. -/
def bankBandsUptoCard : Claim7 := { stood := { row := bankBandsUptoRow, standIns := [], harness := (true, "90eda6ba73e2c00c46a2201e48ddeab636ed9c7c516c5d5d4928c07cdcce286f"), looks := false }, kinds := [], alts := [], laidByText := true, laidKinds := [.data, .data, .data, .data], laidTests := true, laidLooks := .later }
def BankBandsUptoCardSaid : Prop := Claim7.holds Tryz.pinned (.plain (OpenSpec.upto bankBandsSpec)) bankBandsUptoCard

/-- THE SECOND FORM's CARD OF 'ringdownlaw07.BankSure'. -/
def bankSureUptoCard : Claim7 := { stood := { row := bankSureUptoRow, standIns := [], harness := (true, "90eda6ba73e2c00c46a2201e48ddeab636ed9c7c516c5d5d4928c07cdcce286f"), looks := false }, kinds := [], alts := [], laidByText := true, laidKinds := [.data, .data, .data, .data], laidTests := true, laidLooks := .later }
def BankSureUptoCardSaid : Prop := Claim7.holds Tryz.pinned (.plain (OpenSpec.upto bankSureSpec)) bankSureUptoCard

/-- THE SECOND FORM's CARD OF 'ringdownlaw08.SearchFilled'. -/
def searchFilledUptoCard : Claim7 := { stood := { row := searchFilledUptoRow, standIns := [], harness := (true, "90eda6ba73e2c00c46a2201e48ddeab636ed9c7c516c5d5d4928c07cdcce286f"), looks := false }, kinds := [], alts := [], laidByText := true, laidKinds := [.data], laidTests := true, laidLooks := .later }
def SearchFilledUptoCardSaid : Prop := Claim7.holds Tryz.pinned (.plain (OpenSpec.upto searchFilledSpec)) searchFilledUptoCard
end Rows
end Go.Proofs.YtjddbfpinjjkkabGreatDoor
