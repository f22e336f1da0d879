/-
  DERIVED. GIVEN WITH THE SEED: THE CARDS: each row of YtifojpkcegefgaaDoorRows.lean that lists a variable, with what it lists TIED to the program's text (the seventh form; the later family's looks); each row that meets fmt, with fmt's text TOLD by the authors' own Lean function (tested against real Go, not proved from fmt's source: count such statements apart). THE CARD IS WHAT COUNTS. Prove the row's statement (the work); the ties are given (YtifojpkcegefgaaDoorTie.lean); close each card by the builder's one call (the guide's Derived/Test/ToyasCard.lean, 'card_holds'). Laid BY PROGRAM, IN A SANDBOX (cutbox-door.mjs). By AI agents, Wed Nov 11 2026. No macro, syntax, notation, axiom, sorry.
-/
import Derived.Test.YtifojpkcegefgaaDoorRows
import GoSem.ClaimSeven
namespace Go.Proofs.YtifojpkcegefgaaDoor
namespace Rows

/-- THE TIED CARD OF 'jostlelaw09.CallRight'. -/
def callRightCard : Claim7 := { stood := { row := callRightRow, standIns := [], harness := (true, "649e245c99b745597b8ce81ed334495e0d42b0843c07ccc9a0b6e95ab559a103"), looks := false }, kinds := [], alts := [], laidByText := true, laidKinds := [.data, .data, .data], laidTests := true, laidLooks := .later }
def CallRightCardSaid : Prop := Claim7.holds Tryd.pinned (.plain (OpenSpec.ofChange callRightSpec)) callRightCard

/-- THE TIED CARD OF 'jostlelaw09.CallTexts'. -/
def callTextsCard : Claim7 := { stood := { row := callTextsRow, standIns := [], harness := (true, "649e245c99b745597b8ce81ed334495e0d42b0843c07ccc9a0b6e95ab559a103"), looks := false }, kinds := [], alts := [], laidByText := true, laidKinds := [.data, .data, .data], laidTests := true, laidLooks := .later }
def CallTextsCardSaid : Prop := Claim7.holds Tryd.pinned (.plain (OpenSpec.ofChange callTextsSpec)) callTextsCard

/-- THE TIED CARD OF 'jostlelaw09.CallParses'. -/
def callParsesCard : Claim7 := { stood := { row := callParsesRow, standIns := [], harness := (true, "649e245c99b745597b8ce81ed334495e0d42b0843c07ccc9a0b6e95ab559a103"), looks := false }, kinds := [], alts := [], laidByText := true, laidKinds := [.data, .data, .data], laidTests := true, laidLooks := .later }
def CallParsesCardSaid : Prop := Claim7.holds Tryd.pinned (.plain (OpenSpec.ofChange callParsesSpec)) callParsesCard

/-- THE TIED CARD OF 'jostlelaw09.CallCodes'. -/
def callCodesCard : Claim7 := { stood := { row := callCodesRow, standIns := [], harness := (true, "649e245c99b745597b8ce81ed334495e0d42b0843c07ccc9a0b6e95ab559a103"), looks := false }, kinds := [], alts := [], laidByText := true, laidKinds := [.data, .data, .data], laidTests := true, laidLooks := .later }
def CallCodesCardSaid : Prop := Claim7.holds Tryd.pinned (.plain (OpenSpec.ofChange callCodesSpec)) callCodesCard

/-- THE TIED CARD OF 'jostlelaw09.CallBack'. -/
def callBackCard : Claim7 := { stood := { row := callBackRow, standIns := [], harness := (true, "649e245c99b745597b8ce81ed334495e0d42b0843c07ccc9a0b6e95ab559a103"), looks := false }, kinds := [], alts := [], laidByText := true, laidKinds := [.data, .data, .data], laidTests := true, laidLooks := .later }
def CallBackCardSaid : Prop := Claim7.holds Tryd.pinned (.plain (OpenSpec.ofChange callBackSpec)) callBackCard

/-- THE SECOND FORM's CARD OF 'jostlelaw09.CallRight'. -/
def callRightUptoCard : Claim7 := { stood := { row := callRightUptoRow, standIns := [], harness := (true, "649e245c99b745597b8ce81ed334495e0d42b0843c07ccc9a0b6e95ab559a103"), looks := false }, kinds := [], alts := [], laidByText := true, laidKinds := [.data, .data, .data], laidTests := true, laidLooks := .later }
def CallRightUptoCardSaid : Prop := Claim7.holds Tryd.pinned (.plain (OpenSpec.upto callRightSpec)) callRightUptoCard

/-- THE SECOND FORM's CARD OF 'jostlelaw09.CallTexts'. -/
def callTextsUptoCard : Claim7 := { stood := { row := callTextsUptoRow, standIns := [], harness := (true, "649e245c99b745597b8ce81ed334495e0d42b0843c07ccc9a0b6e95ab559a103"), looks := false }, kinds := [], alts := [], laidByText := true, laidKinds := [.data, .data, .data], laidTests := true, laidLooks := .later }
def CallTextsUptoCardSaid : Prop := Claim7.holds Tryd.pinned (.plain (OpenSpec.upto callTextsSpec)) callTextsUptoCard

/-- THE SECOND FORM's CARD OF 'jostlelaw09.CallParses'. -/
def callParsesUptoCard : Claim7 := { stood := { row := callParsesUptoRow, standIns := [], harness := (true, "649e245c99b745597b8ce81ed334495e0d42b0843c07ccc9a0b6e95ab559a103"), looks := false }, kinds := [], alts := [], laidByText := true, laidKinds := [.data, .data, .data], laidTests := true, laidLooks := .later }
def CallParsesUptoCardSaid : Prop := Claim7.holds Tryd.pinned (.plain (OpenSpec.upto callParsesSpec)) callParsesUptoCard

/-- THE SECOND FORM's CARD OF 'jostlelaw09.CallCodes'. -/
def callCodesUptoCard : Claim7 := { stood := { row := callCodesUptoRow, standIns := [], harness := (true, "649e245c99b745597b8ce81ed334495e0d42b0843c07ccc9a0b6e95ab559a103"), looks := false }, kinds := [], alts := [], laidByText := true, laidKinds := [.data, .data, .data], laidTests := true, laidLooks := .later }
def CallCodesUptoCardSaid : Prop := Claim7.holds Tryd.pinned (.plain (OpenSpec.upto callCodesSpec)) callCodesUptoCard

/-- THE SECOND FORM's CARD OF 'jostlelaw09.CallBack'. -/
def callBackUptoCard : Claim7 := { stood := { row := callBackUptoRow, standIns := [], harness := (true, "649e245c99b745597b8ce81ed334495e0d42b0843c07ccc9a0b6e95ab559a103"), looks := false }, kinds := [], alts := [], laidByText := true, laidKinds := [.data, .data, .data], laidTests := true, laidLooks := .later }
def CallBackUptoCardSaid : Prop := Claim7.holds Tryd.pinned (.plain (OpenSpec.upto callBackSpec)) callBackUptoCard
end Rows
end Go.Proofs.YtifojpkcegefgaaDoor
