/-
  DERIVED. GIVEN WITH THE SEED: THE CARDS: each row of YtodkhehadlkbiaaGreatDoorRows.lean that lists a variable, with what it lists TIED to the program's text (the seventh form; the later family's looks); each row that meets fmt, with fmt's text TOLD by the authors' own Lean function (tested against real Go, not proved from fmt's source: count such statements apart). THE CARD IS WHAT COUNTS. Prove the row's statement (the work); the ties are given (YtodkhehadlkbiaaGreatDoorTie.lean); close each card by the builder's one call (the guide's Derived/Test/ToyasCard.lean, 'card_holds'). Laid BY PROGRAM, IN A SANDBOX (cutbox-door.mjs). By AI agents, Wed Nov 11 2026. No macro, syntax, notation, axiom, sorry.
-/
import Derived.Test.YtodkhehadlkbiaaGreatDoorRows
import GoSem.ClaimSeven
namespace Go.Proofs.YtodkhehadlkbiaaGreatDoor
namespace Rows

/-- THE TIED CARD OF 'ringdownlaw05.RecordKnown'. -/
def recordKnownCard : Claim7 := { stood := { row := recordKnownRow, standIns := [], harness := (true, "2df9544ba61d7ce6c70ef5d3ee8a58d8e73a683584b2a8f11144c59b02926e71"), looks := false }, kinds := [], alts := [], laidByText := true, laidKinds := [.data, .data, .data], laidTests := true, laidLooks := .later }
def RecordKnownCardSaid : Prop := Claim7.holds Tryz.pinned (.plain (OpenSpec.ofChange recordKnownSpec)) recordKnownCard

/-- THE TIED CARD OF 'ringdownlaw05.RecordStrains'. -/
def recordStrainsCard : Claim7 := { stood := { row := recordStrainsRow, standIns := [], harness := (true, "2df9544ba61d7ce6c70ef5d3ee8a58d8e73a683584b2a8f11144c59b02926e71"), looks := false }, kinds := [], alts := [], laidByText := true, laidKinds := [.data, .data, .data], laidTests := true, laidLooks := .later }
def RecordStrainsCardSaid : Prop := Claim7.holds Tryz.pinned (.plain (OpenSpec.ofChange recordStrainsSpec)) recordStrainsCard

/-- THE TIED CARD OF 'ringdownlaw05.RecordWithin'. -/
def recordWithinCard : Claim7 := { stood := { row := recordWithinRow, standIns := [], harness := (true, "2df9544ba61d7ce6c70ef5d3ee8a58d8e73a683584b2a8f11144c59b02926e71"), looks := false }, kinds := [], alts := [], laidByText := true, laidKinds := [.data, .data, .data], laidTests := true, laidLooks := .later }
def RecordWithinCardSaid : Prop := Claim7.holds Tryz.pinned (.plain (OpenSpec.ofChange recordWithinSpec)) recordWithinCard

/-- THE TIED CARD OF 'ringdownlaw05.RecordSeconds'. -/
def recordSecondsCard : Claim7 := { stood := { row := recordSecondsRow, standIns := [], harness := (true, "2df9544ba61d7ce6c70ef5d3ee8a58d8e73a683584b2a8f11144c59b02926e71"), looks := false }, kinds := [], alts := [], laidByText := true, laidKinds := [.data, .data, .data], laidTests := true, laidLooks := .later }
def RecordSecondsCardSaid : Prop := Claim7.holds Tryz.pinned (.plain (OpenSpec.ofChange recordSecondsSpec)) recordSecondsCard

/-- THE TIED CARD OF 'ringdownlaw05.RecordSpans'. -/
def recordSpansCard : Claim7 := { stood := { row := recordSpansRow, standIns := [], harness := (true, "2df9544ba61d7ce6c70ef5d3ee8a58d8e73a683584b2a8f11144c59b02926e71"), looks := false }, kinds := [], alts := [], laidByText := true, laidKinds := [.data, .data, .data], laidTests := true, laidLooks := .later }
def RecordSpansCardSaid : Prop := Claim7.holds Tryz.pinned (.plain (OpenSpec.ofChange recordSpansSpec)) recordSpansCard

/-- THE SECOND FORM's CARD OF 'ringdownlaw05.RecordKnown'. -/
def recordKnownUptoCard : Claim7 := { stood := { row := recordKnownUptoRow, standIns := [], harness := (true, "2df9544ba61d7ce6c70ef5d3ee8a58d8e73a683584b2a8f11144c59b02926e71"), looks := false }, kinds := [], alts := [], laidByText := true, laidKinds := [.data, .data, .data], laidTests := true, laidLooks := .later }
def RecordKnownUptoCardSaid : Prop := Claim7.holds Tryz.pinned (.plain (OpenSpec.upto recordKnownSpec)) recordKnownUptoCard

/-- THE SECOND FORM's CARD OF 'ringdownlaw05.RecordStrains'. -/
def recordStrainsUptoCard : Claim7 := { stood := { row := recordStrainsUptoRow, standIns := [], harness := (true, "2df9544ba61d7ce6c70ef5d3ee8a58d8e73a683584b2a8f11144c59b02926e71"), looks := false }, kinds := [], alts := [], laidByText := true, laidKinds := [.data, .data, .data], laidTests := true, laidLooks := .later }
def RecordStrainsUptoCardSaid : Prop := Claim7.holds Tryz.pinned (.plain (OpenSpec.upto recordStrainsSpec)) recordStrainsUptoCard

/-- THE SECOND FORM's CARD OF 'ringdownlaw05.RecordWithin'. -/
def recordWithinUptoCard : Claim7 := { stood := { row := recordWithinUptoRow, standIns := [], harness := (true, "2df9544ba61d7ce6c70ef5d3ee8a58d8e73a683584b2a8f11144c59b02926e71"), looks := false }, kinds := [], alts := [], laidByText := true, laidKinds := [.data, .data, .data], laidTests := true, laidLooks := .later }
def RecordWithinUptoCardSaid : Prop := Claim7.holds Tryz.pinned (.plain (OpenSpec.upto recordWithinSpec)) recordWithinUptoCard

/-- THE SECOND FORM's CARD OF 'ringdownlaw05.RecordSeconds'. -/
def recordSecondsUptoCard : Claim7 := { stood := { row := recordSecondsUptoRow, standIns := [], harness := (true, "2df9544ba61d7ce6c70ef5d3ee8a58d8e73a683584b2a8f11144c59b02926e71"), looks := false }, kinds := [], alts := [], laidByText := true, laidKinds := [.data, .data, .data], laidTests := true, laidLooks := .later }
def RecordSecondsUptoCardSaid : Prop := Claim7.holds Tryz.pinned (.plain (OpenSpec.upto recordSecondsSpec)) recordSecondsUptoCard

/-- THE SECOND FORM's CARD OF 'ringdownlaw05.RecordSpans'. -/
def recordSpansUptoCard : Claim7 := { stood := { row := recordSpansUptoRow, standIns := [], harness := (true, "2df9544ba61d7ce6c70ef5d3ee8a58d8e73a683584b2a8f11144c59b02926e71"), looks := false }, kinds := [], alts := [], laidByText := true, laidKinds := [.data, .data, .data], laidTests := true, laidLooks := .later }
def RecordSpansUptoCardSaid : Prop := Claim7.holds Tryz.pinned (.plain (OpenSpec.upto recordSpansSpec)) recordSpansUptoCard
end Rows
end Go.Proofs.YtodkhehadlkbiaaGreatDoor
