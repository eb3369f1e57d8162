/-
  DERIVED. GIVEN WITH THE SEED: THE CARDS: each row of YtoobfmfgbcohcabGreatDoorRows.lean that lists a variable, with what it lists TIED to the program's text (the seventh form; the later family's looks); each row that meets fmt, with fmt's text TOLD by the authors' own Lean function (tested against real Go, not proved from fmt's source: count such statements apart). THE CARD IS WHAT COUNTS. Prove the row's statement (the work); the ties are given (YtoobfmfgbcohcabGreatDoorTie.lean); close each card by the builder's one call (the guide's Derived/Test/ToyasCard.lean, 'card_holds'). Laid BY PROGRAM, IN A SANDBOX (cutbox-door.mjs). By AI agents, Wed Nov 11 2026. No macro, syntax, notation, axiom, sorry.
-/
import Derived.Test.YtoobfmfgbcohcabGreatDoorRows
import GoSem.ClaimSeven
namespace Go.Proofs.YtoobfmfgbcohcabGreatDoor
namespace Rows

/-- THE TIED CARD OF 'ringdownlaw10.AlertBoards'. -/
def alertBoardsCard : Claim7 := { stood := { row := alertBoardsRow, standIns := [], harness := (true, "a6521d96c1c2a0cba7801db5588ea7582c10208a1d01ac9f72902f278d23f080"), looks := false }, kinds := [], alts := [], laidByText := true, laidKinds := [.data, .data, .data], laidTests := true, laidLooks := .later }
def AlertBoardsCardSaid : Prop := Claim7.holds Tryz.pinned (.plain (OpenSpec.ofChange alertBoardsSpec)) alertBoardsCard

/-- THE TIED CARD OF 'ringdownlaw10.AlertAgrees'. -/
def alertAgreesCard : Claim7 := { stood := { row := alertAgreesRow, standIns := [], harness := (true, "a6521d96c1c2a0cba7801db5588ea7582c10208a1d01ac9f72902f278d23f080"), looks := false }, kinds := [], alts := [], laidByText := true, laidKinds := [.data, .data, .data], laidTests := true, laidLooks := .later }
def AlertAgreesCardSaid : Prop := Claim7.holds Tryz.pinned (.plain (OpenSpec.ofChange alertAgreesSpec)) alertAgreesCard

/-- THE TIED CARD OF 'ringdownlaw10.AlertNight'. -/
def alertNightCard : Claim7 := { stood := { row := alertNightRow, standIns := [], harness := (true, "a6521d96c1c2a0cba7801db5588ea7582c10208a1d01ac9f72902f278d23f080"), looks := false }, kinds := [], alts := [], laidByText := true, laidKinds := [.data, .data, .data], laidTests := true, laidLooks := .later }
def AlertNightCardSaid : Prop := Claim7.holds Tryz.pinned (.plain (OpenSpec.ofChange alertNightSpec)) alertNightCard

/-- THE TIED CARD OF 'ringdownlaw10.AlertCredible'. -/
def alertCredibleCard : Claim7 := { stood := { row := alertCredibleRow, standIns := [], harness := (true, "a6521d96c1c2a0cba7801db5588ea7582c10208a1d01ac9f72902f278d23f080"), looks := false }, kinds := [], alts := [], laidByText := true, laidKinds := [.data, .data, .data], laidTests := true, laidLooks := .later }
def AlertCredibleCardSaid : Prop := Claim7.holds Tryz.pinned (.plain (OpenSpec.ofChange alertCredibleSpec)) alertCredibleCard

/-- THE SECOND FORM's CARD OF 'ringdownlaw10.AlertBoards'. -/
def alertBoardsUptoCard : Claim7 := { stood := { row := alertBoardsUptoRow, standIns := [], harness := (true, "a6521d96c1c2a0cba7801db5588ea7582c10208a1d01ac9f72902f278d23f080"), looks := false }, kinds := [], alts := [], laidByText := true, laidKinds := [.data, .data, .data], laidTests := true, laidLooks := .later }
def AlertBoardsUptoCardSaid : Prop := Claim7.holds Tryz.pinned (.plain (OpenSpec.upto alertBoardsSpec)) alertBoardsUptoCard

/-- THE SECOND FORM's CARD OF 'ringdownlaw10.AlertAgrees'. -/
def alertAgreesUptoCard : Claim7 := { stood := { row := alertAgreesUptoRow, standIns := [], harness := (true, "a6521d96c1c2a0cba7801db5588ea7582c10208a1d01ac9f72902f278d23f080"), looks := false }, kinds := [], alts := [], laidByText := true, laidKinds := [.data, .data, .data], laidTests := true, laidLooks := .later }
def AlertAgreesUptoCardSaid : Prop := Claim7.holds Tryz.pinned (.plain (OpenSpec.upto alertAgreesSpec)) alertAgreesUptoCard

/-- THE SECOND FORM's CARD OF 'ringdownlaw10.AlertNight'. -/
def alertNightUptoCard : Claim7 := { stood := { row := alertNightUptoRow, standIns := [], harness := (true, "a6521d96c1c2a0cba7801db5588ea7582c10208a1d01ac9f72902f278d23f080"), looks := false }, kinds := [], alts := [], laidByText := true, laidKinds := [.data, .data, .data], laidTests := true, laidLooks := .later }
def AlertNightUptoCardSaid : Prop := Claim7.holds Tryz.pinned (.plain (OpenSpec.upto alertNightSpec)) alertNightUptoCard

/-- THE SECOND FORM's CARD OF 'ringdownlaw10.AlertCredible'. -/
def alertCredibleUptoCard : Claim7 := { stood := { row := alertCredibleUptoRow, standIns := [], harness := (true, "a6521d96c1c2a0cba7801db5588ea7582c10208a1d01ac9f72902f278d23f080"), looks := false }, kinds := [], alts := [], laidByText := true, laidKinds := [.data, .data, .data], laidTests := true, laidLooks := .later }
def AlertCredibleUptoCardSaid : Prop := Claim7.holds Tryz.pinned (.plain (OpenSpec.upto alertCredibleSpec)) alertCredibleUptoCard
end Rows
end Go.Proofs.YtoobfmfgbcohcabGreatDoor
