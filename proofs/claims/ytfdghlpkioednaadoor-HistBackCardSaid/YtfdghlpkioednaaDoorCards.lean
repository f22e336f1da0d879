/-
  DERIVED. GIVEN WITH THE SEED: THE CARDS: each row of YtfdghlpkioednaaDoorRows.lean that lists a variable, with what it lists TIED to the program's text (the seventh form; the later family's looks); each row that meets fmt, with fmt's text TOLD by the authors' own Lean function (tested against real Go, not proved from fmt's source: count such statements apart). THE CARD IS WHAT COUNTS. Prove the row's statement (the work); the ties are given (YtfdghlpkioednaaDoorTie.lean); close each card by the builder's one call (the guide's Derived/Test/ToyasCard.lean, 'card_holds'). Laid BY PROGRAM, IN A SANDBOX (cutbox-door.mjs). By AI agents, Wed Nov 11 2026. No macro, syntax, notation, axiom, sorry.
-/
import Derived.Test.YtfdghlpkioednaaDoorRows
import GoSem.ClaimSeven
namespace Go.Proofs.YtfdghlpkioednaaDoor
namespace Rows

/-- THE TIED CARD OF 'jostlelaw12.HistNotes'. -/
def histNotesCard : Claim7 := { stood := { row := histNotesRow, standIns := [], harness := (true, "03877a3c2fd7c30de7f1c29ef39ceb2cb3619428bc9c45fcb5ccb52fe53be587"), looks := false }, kinds := [], alts := [], laidByText := true, laidKinds := [.data, .data, .data], laidTests := true, laidLooks := .later }
def HistNotesCardSaid : Prop := Claim7.holds Tryd.pinned (.plain (OpenSpec.ofChange histNotesSpec)) histNotesCard

/-- THE TIED CARD OF 'jostlelaw12.HistOpers'. -/
def histOpersCard : Claim7 := { stood := { row := histOpersRow, standIns := [], harness := (true, "03877a3c2fd7c30de7f1c29ef39ceb2cb3619428bc9c45fcb5ccb52fe53be587"), looks := false }, kinds := [], alts := [], laidByText := true, laidKinds := [.data, .data, .data], laidTests := true, laidLooks := .later }
def HistOpersCardSaid : Prop := Claim7.holds Tryd.pinned (.plain (OpenSpec.ofChange histOpersSpec)) histOpersCard

/-- THE TIED CARD OF 'jostlelaw12.HistBack'. -/
def histBackCard : Claim7 := { stood := { row := histBackRow, standIns := [], harness := (true, "03877a3c2fd7c30de7f1c29ef39ceb2cb3619428bc9c45fcb5ccb52fe53be587"), looks := false }, kinds := [], alts := [], laidByText := true, laidKinds := [.data, .data, .data], laidTests := true, laidLooks := .later }
def HistBackCardSaid : Prop := Claim7.holds Tryd.pinned (.plain (OpenSpec.ofChange histBackSpec)) histBackCard

/-- THE SECOND FORM's CARD OF 'jostlelaw12.HistNotes'. -/
def histNotesUptoCard : Claim7 := { stood := { row := histNotesUptoRow, standIns := [], harness := (true, "03877a3c2fd7c30de7f1c29ef39ceb2cb3619428bc9c45fcb5ccb52fe53be587"), looks := false }, kinds := [], alts := [], laidByText := true, laidKinds := [.data, .data, .data], laidTests := true, laidLooks := .later }
def HistNotesUptoCardSaid : Prop := Claim7.holds Tryd.pinned (.plain (OpenSpec.upto histNotesSpec)) histNotesUptoCard

/-- THE SECOND FORM's CARD OF 'jostlelaw12.HistOpers'. -/
def histOpersUptoCard : Claim7 := { stood := { row := histOpersUptoRow, standIns := [], harness := (true, "03877a3c2fd7c30de7f1c29ef39ceb2cb3619428bc9c45fcb5ccb52fe53be587"), looks := false }, kinds := [], alts := [], laidByText := true, laidKinds := [.data, .data, .data], laidTests := true, laidLooks := .later }
def HistOpersUptoCardSaid : Prop := Claim7.holds Tryd.pinned (.plain (OpenSpec.upto histOpersSpec)) histOpersUptoCard

/-- THE SECOND FORM's CARD OF 'jostlelaw12.HistBack'. -/
def histBackUptoCard : Claim7 := { stood := { row := histBackUptoRow, standIns := [], harness := (true, "03877a3c2fd7c30de7f1c29ef39ceb2cb3619428bc9c45fcb5ccb52fe53be587"), looks := false }, kinds := [], alts := [], laidByText := true, laidKinds := [.data, .data, .data], laidTests := true, laidLooks := .later }
def HistBackUptoCardSaid : Prop := Claim7.holds Tryd.pinned (.plain (OpenSpec.upto histBackSpec)) histBackUptoCard
end Rows
end Go.Proofs.YtfdghlpkioednaaDoor
