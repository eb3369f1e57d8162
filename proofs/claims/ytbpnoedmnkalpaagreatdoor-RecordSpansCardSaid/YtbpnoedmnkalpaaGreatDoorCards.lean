/-
  DERIVED. GIVEN WITH THE SEED: THE CARDS: each row of YtbpnoedmnkalpaaGreatDoorRows.lean that lists a variable, with what it lists TIED to the program's text (the seventh form; the later family's looks); each row that meets fmt, with fmt's text TOLD by the authors' own Lean function (tested against real Go, not proved from fmt's source: count such statements apart). THE CARD IS WHAT COUNTS. Prove the row's statement (the work); the ties are given (YtbpnoedmnkalpaaGreatDoorTie.lean); close each card by the builder's one call (the guide's Derived/Test/ToyasCard.lean, 'card_holds'). Laid BY PROGRAM, IN A SANDBOX (cutbox-door.mjs). By AI agents, Wed Nov 11 2026. No macro, syntax, notation, axiom, sorry.
-/
import Derived.Test.YtbpnoedmnkalpaaGreatDoorRows
import GoSem.ClaimSeven
namespace Go.Proofs.YtbpnoedmnkalpaaGreatDoor
namespace Rows

/-- THE TIED CARD OF 'ringdownlaw04.LockHeld'. -/
def lockHeldCard : Claim7 := { stood := { row := lockHeldRow, standIns := [], harness := (true, "f46b629707cf8164d4778931765af74bdb69858904378dddf360a5ff721157ad"), looks := true }, kinds := [], alts := [], laidByText := true, laidKinds := [.data, .data, .data, .sentinel, .sentinel], laidTests := true, laidLooks := .later }
def LockHeldCardSaid : Prop := Claim7.holds Tryz.pinned (.plain (OpenSpec.ofChange lockHeldSpec)) lockHeldCard

/-- THE TIED CARD OF 'ringdownlaw04.LockNever'. -/
def lockNeverCard : Claim7 := { stood := { row := lockNeverRow, standIns := [], harness := (true, "f46b629707cf8164d4778931765af74bdb69858904378dddf360a5ff721157ad"), looks := true }, kinds := [], alts := [], laidByText := true, laidKinds := [.data, .data, .data, .sentinel, .sentinel], laidTests := true, laidLooks := .later }
def LockNeverCardSaid : Prop := Claim7.holds Tryz.pinned (.plain (OpenSpec.ofChange lockNeverSpec)) lockNeverCard

/-- THE TIED CARD OF 'ringdownlaw04.LockGoal'. -/
def lockGoalCard : Claim7 := { stood := { row := lockGoalRow, standIns := [], harness := (true, "f46b629707cf8164d4778931765af74bdb69858904378dddf360a5ff721157ad"), looks := true }, kinds := [], alts := [], laidByText := true, laidKinds := [.data, .data, .data, .sentinel, .sentinel], laidTests := true, laidLooks := .later }
def LockGoalCardSaid : Prop := Claim7.holds Tryz.pinned (.plain (OpenSpec.ofChange lockGoalSpec)) lockGoalCard

/-- THE TIED CARD OF 'ringdownlaw04.LockWorst'. -/
def lockWorstCard : Claim7 := { stood := { row := lockWorstRow, standIns := [], harness := (true, "f46b629707cf8164d4778931765af74bdb69858904378dddf360a5ff721157ad"), looks := true }, kinds := [], alts := [], laidByText := true, laidKinds := [.data, .data, .data, .sentinel, .sentinel], laidTests := true, laidLooks := .later }
def LockWorstCardSaid : Prop := Claim7.holds Tryz.pinned (.plain (OpenSpec.ofChange lockWorstSpec)) lockWorstCard

/-- THE TIED CARD OF 'ringdownlaw05.RecordSpans'. -/
def recordSpansCard : Claim7 := { stood := { row := recordSpansRow, standIns := [], harness := (true, "f46b629707cf8164d4778931765af74bdb69858904378dddf360a5ff721157ad"), looks := true }, kinds := [], alts := [], laidByText := true, laidKinds := [.data, .data, .data], laidTests := true, laidLooks := .later }
def RecordSpansCardSaid : Prop := Claim7.holds Tryz.pinned (.plain (OpenSpec.ofChange recordSpansSpec)) recordSpansCard

/-- THE TIED CARD OF 'ringdownlaw05.RecordSeconds'. -/
def recordSecondsCard : Claim7 := { stood := { row := recordSecondsRow, standIns := [], harness := (true, "f46b629707cf8164d4778931765af74bdb69858904378dddf360a5ff721157ad"), looks := true }, kinds := [], alts := [], laidByText := true, laidKinds := [.data, .data, .data], laidTests := true, laidLooks := .later }
def RecordSecondsCardSaid : Prop := Claim7.holds Tryz.pinned (.plain (OpenSpec.ofChange recordSecondsSpec)) recordSecondsCard

/-- THE TIED CARD OF 'ringdownlaw05.RecordWithin'. -/
def recordWithinCard : Claim7 := { stood := { row := recordWithinRow, standIns := [], harness := (true, "f46b629707cf8164d4778931765af74bdb69858904378dddf360a5ff721157ad"), looks := true }, kinds := [], alts := [], laidByText := true, laidKinds := [.data, .data, .data], laidTests := true, laidLooks := .later }
def RecordWithinCardSaid : Prop := Claim7.holds Tryz.pinned (.plain (OpenSpec.ofChange recordWithinSpec)) recordWithinCard

/-- THE SECOND FORM's CARD OF 'ringdownlaw04.LockHeld'. -/
def lockHeldUptoCard : Claim7 := { stood := { row := lockHeldUptoRow, standIns := [], harness := (true, "f46b629707cf8164d4778931765af74bdb69858904378dddf360a5ff721157ad"), looks := true }, kinds := [], alts := [], laidByText := true, laidKinds := [.data, .data, .data, .sentinel, .sentinel], laidTests := true, laidLooks := .later }
def LockHeldUptoCardSaid : Prop := Claim7.holds Tryz.pinned (.plain (OpenSpec.upto lockHeldSpec)) lockHeldUptoCard

/-- THE SECOND FORM's CARD OF 'ringdownlaw04.LockNever'. -/
def lockNeverUptoCard : Claim7 := { stood := { row := lockNeverUptoRow, standIns := [], harness := (true, "f46b629707cf8164d4778931765af74bdb69858904378dddf360a5ff721157ad"), looks := true }, kinds := [], alts := [], laidByText := true, laidKinds := [.data, .data, .data, .sentinel, .sentinel], laidTests := true, laidLooks := .later }
def LockNeverUptoCardSaid : Prop := Claim7.holds Tryz.pinned (.plain (OpenSpec.upto lockNeverSpec)) lockNeverUptoCard

/-- THE SECOND FORM's CARD OF 'ringdownlaw04.LockGoal'. -/
def lockGoalUptoCard : Claim7 := { stood := { row := lockGoalUptoRow, standIns := [], harness := (true, "f46b629707cf8164d4778931765af74bdb69858904378dddf360a5ff721157ad"), looks := true }, kinds := [], alts := [], laidByText := true, laidKinds := [.data, .data, .data, .sentinel, .sentinel], laidTests := true, laidLooks := .later }
def LockGoalUptoCardSaid : Prop := Claim7.holds Tryz.pinned (.plain (OpenSpec.upto lockGoalSpec)) lockGoalUptoCard

/-- THE SECOND FORM's CARD OF 'ringdownlaw04.LockWorst'. -/
def lockWorstUptoCard : Claim7 := { stood := { row := lockWorstUptoRow, standIns := [], harness := (true, "f46b629707cf8164d4778931765af74bdb69858904378dddf360a5ff721157ad"), looks := true }, kinds := [], alts := [], laidByText := true, laidKinds := [.data, .data, .data, .sentinel, .sentinel], laidTests := true, laidLooks := .later }
def LockWorstUptoCardSaid : Prop := Claim7.holds Tryz.pinned (.plain (OpenSpec.upto lockWorstSpec)) lockWorstUptoCard

/-- THE SECOND FORM's CARD OF 'ringdownlaw05.RecordSpans'. -/
def recordSpansUptoCard : Claim7 := { stood := { row := recordSpansUptoRow, standIns := [], harness := (true, "f46b629707cf8164d4778931765af74bdb69858904378dddf360a5ff721157ad"), looks := true }, kinds := [], alts := [], laidByText := true, laidKinds := [.data, .data, .data], laidTests := true, laidLooks := .later }
def RecordSpansUptoCardSaid : Prop := Claim7.holds Tryz.pinned (.plain (OpenSpec.upto recordSpansSpec)) recordSpansUptoCard

/-- THE SECOND FORM's CARD OF 'ringdownlaw05.RecordSeconds'. -/
def recordSecondsUptoCard : Claim7 := { stood := { row := recordSecondsUptoRow, standIns := [], harness := (true, "f46b629707cf8164d4778931765af74bdb69858904378dddf360a5ff721157ad"), looks := true }, kinds := [], alts := [], laidByText := true, laidKinds := [.data, .data, .data], laidTests := true, laidLooks := .later }
def RecordSecondsUptoCardSaid : Prop := Claim7.holds Tryz.pinned (.plain (OpenSpec.upto recordSecondsSpec)) recordSecondsUptoCard

/-- THE SECOND FORM's CARD OF 'ringdownlaw05.RecordWithin'. -/
def recordWithinUptoCard : Claim7 := { stood := { row := recordWithinUptoRow, standIns := [], harness := (true, "f46b629707cf8164d4778931765af74bdb69858904378dddf360a5ff721157ad"), looks := true }, kinds := [], alts := [], laidByText := true, laidKinds := [.data, .data, .data], laidTests := true, laidLooks := .later }
def RecordWithinUptoCardSaid : Prop := Claim7.holds Tryz.pinned (.plain (OpenSpec.upto recordWithinSpec)) recordWithinUptoCard
end Rows
end Go.Proofs.YtbpnoedmnkalpaaGreatDoor
