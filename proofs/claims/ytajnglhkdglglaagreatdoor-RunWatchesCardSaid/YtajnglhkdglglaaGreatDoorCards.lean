/-
  DERIVED. GIVEN WITH THE SEED: THE CARDS: each row of YtajnglhkdglglaaGreatDoorRows.lean that lists a variable, with what it lists TIED to the program's text (the seventh form; the later family's looks); each row that meets fmt, with fmt's text TOLD by the authors' own Lean function (tested against real Go, not proved from fmt's source: count such statements apart). THE CARD IS WHAT COUNTS. Prove the row's statement (the work); the ties are given (YtajnglhkdglglaaGreatDoorTie.lean); close each card by the builder's one call (the guide's Derived/Test/ToyasCard.lean, 'card_holds'). Laid BY PROGRAM, IN A SANDBOX (cutbox-door.mjs). By AI agents, Wed Nov 11 2026. No macro, syntax, notation, axiom, sorry.
-/
import Derived.Test.YtajnglhkdglglaaGreatDoorRows
import GoSem.ClaimSeven
namespace Go.Proofs.YtajnglhkdglglaaGreatDoor
namespace Rows

/-- THE TIED CARD OF 'ringdownlaw11.RunSeeds'. -/
def runSeedsCard : Claim7 := { stood := { row := runSeedsRow, standIns := [], harness := (true, "1398f525590cb951cccab54cc32b86f001b47aac426323958e7845ccea58699e"), looks := false }, kinds := [], alts := [], laidByText := true, laidKinds := [.data, .data, .data, .data], laidTests := true, laidLooks := .later }
def RunSeedsCardSaid : Prop := Claim7.holds Tryz.pinned (.plain (OpenSpec.ofChange runSeedsSpec)) runSeedsCard

/-- THE TIED CARD OF 'ringdownlaw11.RunRoster'. -/
def runRosterCard : Claim7 := { stood := { row := runRosterRow, standIns := [], harness := (true, "1398f525590cb951cccab54cc32b86f001b47aac426323958e7845ccea58699e"), looks := false }, kinds := [], alts := [], laidByText := true, laidKinds := [.data, .data, .data, .data], laidTests := true, laidLooks := .later }
def RunRosterCardSaid : Prop := Claim7.holds Tryz.pinned (.plain (OpenSpec.ofChange runRosterSpec)) runRosterCard

/-- THE TIED CARD OF 'ringdownlaw11.RunQuiet'. -/
def runQuietCard : Claim7 := { stood := { row := runQuietRow, standIns := [], harness := (true, "1398f525590cb951cccab54cc32b86f001b47aac426323958e7845ccea58699e"), looks := false }, kinds := [], alts := [], laidByText := true, laidKinds := [.data, .data, .data, .data], laidTests := true, laidLooks := .later }
def RunQuietCardSaid : Prop := Claim7.holds Tryz.pinned (.plain (OpenSpec.ofChange runQuietSpec)) runQuietCard

/-- THE TIED CARD OF 'ringdownlaw11.RunVetoed'. -/
def runVetoedCard : Claim7 := { stood := { row := runVetoedRow, standIns := [], harness := (true, "1398f525590cb951cccab54cc32b86f001b47aac426323958e7845ccea58699e"), looks := false }, kinds := [], alts := [], laidByText := true, laidKinds := [.data, .data, .data, .data], laidTests := true, laidLooks := .later }
def RunVetoedCardSaid : Prop := Claim7.holds Tryz.pinned (.plain (OpenSpec.ofChange runVetoedSpec)) runVetoedCard

/-- THE TIED CARD OF 'ringdownlaw11.RunWatches'. -/
def runWatchesCard : Claim7 := { stood := { row := runWatchesRow, standIns := [], harness := (true, "1398f525590cb951cccab54cc32b86f001b47aac426323958e7845ccea58699e"), looks := false }, kinds := [], alts := [], laidByText := true, laidKinds := [.data, .data, .data, .data], laidTests := true, laidLooks := .later }
def RunWatchesCardSaid : Prop := Claim7.holds Tryz.pinned (.plain (OpenSpec.ofChange runWatchesSpec)) runWatchesCard

/-- THE SECOND FORM's CARD OF 'ringdownlaw11.RunSeeds'. -/
def runSeedsUptoCard : Claim7 := { stood := { row := runSeedsUptoRow, standIns := [], harness := (true, "1398f525590cb951cccab54cc32b86f001b47aac426323958e7845ccea58699e"), looks := false }, kinds := [], alts := [], laidByText := true, laidKinds := [.data, .data, .data, .data], laidTests := true, laidLooks := .later }
def RunSeedsUptoCardSaid : Prop := Claim7.holds Tryz.pinned (.plain (OpenSpec.upto runSeedsSpec)) runSeedsUptoCard

/-- THE SECOND FORM's CARD OF 'ringdownlaw11.RunRoster'. -/
def runRosterUptoCard : Claim7 := { stood := { row := runRosterUptoRow, standIns := [], harness := (true, "1398f525590cb951cccab54cc32b86f001b47aac426323958e7845ccea58699e"), looks := false }, kinds := [], alts := [], laidByText := true, laidKinds := [.data, .data, .data, .data], laidTests := true, laidLooks := .later }
def RunRosterUptoCardSaid : Prop := Claim7.holds Tryz.pinned (.plain (OpenSpec.upto runRosterSpec)) runRosterUptoCard

/-- THE SECOND FORM's CARD OF 'ringdownlaw11.RunQuiet'. -/
def runQuietUptoCard : Claim7 := { stood := { row := runQuietUptoRow, standIns := [], harness := (true, "1398f525590cb951cccab54cc32b86f001b47aac426323958e7845ccea58699e"), looks := false }, kinds := [], alts := [], laidByText := true, laidKinds := [.data, .data, .data, .data], laidTests := true, laidLooks := .later }
def RunQuietUptoCardSaid : Prop := Claim7.holds Tryz.pinned (.plain (OpenSpec.upto runQuietSpec)) runQuietUptoCard

/-- THE SECOND FORM's CARD OF 'ringdownlaw11.RunVetoed'. -/
def runVetoedUptoCard : Claim7 := { stood := { row := runVetoedUptoRow, standIns := [], harness := (true, "1398f525590cb951cccab54cc32b86f001b47aac426323958e7845ccea58699e"), looks := false }, kinds := [], alts := [], laidByText := true, laidKinds := [.data, .data, .data, .data], laidTests := true, laidLooks := .later }
def RunVetoedUptoCardSaid : Prop := Claim7.holds Tryz.pinned (.plain (OpenSpec.upto runVetoedSpec)) runVetoedUptoCard

/-- THE SECOND FORM's CARD OF 'ringdownlaw11.RunWatches'. -/
def runWatchesUptoCard : Claim7 := { stood := { row := runWatchesUptoRow, standIns := [], harness := (true, "1398f525590cb951cccab54cc32b86f001b47aac426323958e7845ccea58699e"), looks := false }, kinds := [], alts := [], laidByText := true, laidKinds := [.data, .data, .data, .data], laidTests := true, laidLooks := .later }
def RunWatchesUptoCardSaid : Prop := Claim7.holds Tryz.pinned (.plain (OpenSpec.upto runWatchesSpec)) runWatchesUptoCard
end Rows
end Go.Proofs.YtajnglhkdglglaaGreatDoor
