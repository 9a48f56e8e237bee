/-
  DERIVED. GIVEN WITH THE SEED: THE CARDS: each row of YtcadnkanjlmfhaaGreatDoorRows.lean that lists a variable, with what it lists TIED to the program's text (the seventh form; the later family's looks); each row that meets fmt, with fmt's text TOLD by the authors' own Lean function (tested against real Go, not proved from fmt's source: count such statements apart). THE CARD IS WHAT COUNTS. Prove the row's statement (the work); the ties are given (YtcadnkanjlmfhaaGreatDoorTie.lean); close each card by the builder's one call (the guide's Derived/Test/ToyasCard.lean, 'card_holds'). Laid BY PROGRAM, IN A SANDBOX (cutbox-door.mjs). By AI agents, Wed Nov 11 2026. No macro, syntax, notation, axiom, sorry.
-/
import Derived.Test.YtcadnkanjlmfhaaGreatDoorRows
import GoSem.ClaimSeven
namespace Go.Proofs.YtcadnkanjlmfhaaGreatDoor
namespace Rows

/-- THE TIED CARD OF 'rehearsallaw10.ArithEvals'. -/
def arithEvalsCard : Claim7 := { stood := { row := arithEvalsRow, standIns := [], harness := (true, "347344176b26507ee87009acae2c9d9fd2da3f2a25d9f734e548bacfba2cfa01"), looks := false }, kinds := [], alts := [], laidByText := true, laidKinds := [.data, .data, .pinned], laidTests := true, laidLooks := .later }
def ArithEvalsCardSaid : Prop := Claim7.holds Tryz.pinned (.plain (OpenSpec.ofChange arithEvalsSpec)) arithEvalsCard

/-- THE TIED CARD OF 'rehearsallaw10.ArithTwo'. -/
def arithTwoCard : Claim7 := { stood := { row := arithTwoRow, standIns := [], harness := (true, "347344176b26507ee87009acae2c9d9fd2da3f2a25d9f734e548bacfba2cfa01"), looks := false }, kinds := [], alts := [], laidByText := true, laidKinds := [.data, .data, .pinned], laidTests := true, laidLooks := .later }
def ArithTwoCardSaid : Prop := Claim7.holds Tryz.pinned (.plain (OpenSpec.ofChange arithTwoSpec)) arithTwoCard

/-- THE SECOND FORM's CARD OF 'rehearsallaw10.ArithEvals'. -/
def arithEvalsUptoCard : Claim7 := { stood := { row := arithEvalsUptoRow, standIns := [], harness := (true, "347344176b26507ee87009acae2c9d9fd2da3f2a25d9f734e548bacfba2cfa01"), looks := false }, kinds := [], alts := [], laidByText := true, laidKinds := [.data, .data, .pinned], laidTests := true, laidLooks := .later }
def ArithEvalsUptoCardSaid : Prop := Claim7.holds Tryz.pinned (.plain (OpenSpec.upto arithEvalsSpec)) arithEvalsUptoCard

/-- THE SECOND FORM's CARD OF 'rehearsallaw10.ArithTwo'. -/
def arithTwoUptoCard : Claim7 := { stood := { row := arithTwoUptoRow, standIns := [], harness := (true, "347344176b26507ee87009acae2c9d9fd2da3f2a25d9f734e548bacfba2cfa01"), looks := false }, kinds := [], alts := [], laidByText := true, laidKinds := [.data, .data, .pinned], laidTests := true, laidLooks := .later }
def ArithTwoUptoCardSaid : Prop := Claim7.holds Tryz.pinned (.plain (OpenSpec.upto arithTwoSpec)) arithTwoUptoCard
end Rows
end Go.Proofs.YtcadnkanjlmfhaaGreatDoor
