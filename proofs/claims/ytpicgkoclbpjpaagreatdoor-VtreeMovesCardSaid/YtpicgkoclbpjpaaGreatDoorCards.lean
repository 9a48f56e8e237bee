/-
  DERIVED. GIVEN WITH THE SEED: THE CARDS: each row of YtpicgkoclbpjpaaGreatDoorRows.lean that lists a variable, with what it lists TIED to the program's text (the seventh form; the later family's looks); each row that meets fmt, with fmt's text TOLD by the authors' own Lean function (tested against real Go, not proved from fmt's source: count such statements apart). THE CARD IS WHAT COUNTS. Prove the row's statement (the work); the ties are given (YtpicgkoclbpjpaaGreatDoorTie.lean); close each card by the builder's one call (the guide's Derived/Test/ToyasCard.lean, 'card_holds'). Laid BY PROGRAM, IN A SANDBOX (cutbox-door.mjs). By AI agents, Wed Nov 11 2026. No macro, syntax, notation, axiom, sorry.
-/
import Derived.Test.YtpicgkoclbpjpaaGreatDoorRows
import GoSem.ClaimSeven
namespace Go.Proofs.YtpicgkoclbpjpaaGreatDoor
namespace Rows

/-- THE TIED CARD OF 'rehearsallaw05.VtreeWrites'. -/
def vtreeWritesCard : Claim7 := { stood := { row := vtreeWritesRow, standIns := [], harness := (true, "20c9ab84badc9ad1103b44bfba30b4c5a34f5992e80014ba8b308637d23bc7db"), looks := true }, kinds := [], alts := [], laidByText := true, laidKinds := [.data, .pinned], laidTests := true, laidLooks := .later }
def VtreeWritesCardSaid : Prop := Claim7.holds Tryz.pinned (.plain (OpenSpec.ofChange vtreeWritesSpec)) vtreeWritesCard

/-- THE TIED CARD OF 'rehearsallaw05.VtreeNames'. -/
def vtreeNamesCard : Claim7 := { stood := { row := vtreeNamesRow, standIns := [], harness := (true, "20c9ab84badc9ad1103b44bfba30b4c5a34f5992e80014ba8b308637d23bc7db"), looks := true }, kinds := [], alts := [], laidByText := true, laidKinds := [.data, .pinned], laidTests := true, laidLooks := .later }
def VtreeNamesCardSaid : Prop := Claim7.holds Tryz.pinned (.plain (OpenSpec.ofChange vtreeNamesSpec)) vtreeNamesCard

/-- THE TIED CARD OF 'rehearsallaw05.VtreeLinks'. -/
def vtreeLinksCard : Claim7 := { stood := { row := vtreeLinksRow, standIns := [], harness := (true, "20c9ab84badc9ad1103b44bfba30b4c5a34f5992e80014ba8b308637d23bc7db"), looks := true }, kinds := [], alts := [], laidByText := true, laidKinds := [.data, .pinned], laidTests := true, laidLooks := .later }
def VtreeLinksCardSaid : Prop := Claim7.holds Tryz.pinned (.plain (OpenSpec.ofChange vtreeLinksSpec)) vtreeLinksCard

/-- THE TIED CARD OF 'rehearsallaw05.VtreeMoves'. -/
def vtreeMovesCard : Claim7 := { stood := { row := vtreeMovesRow, standIns := [], harness := (true, "20c9ab84badc9ad1103b44bfba30b4c5a34f5992e80014ba8b308637d23bc7db"), looks := true }, kinds := [], alts := [], laidByText := true, laidKinds := [.data, .pinned], laidTests := true, laidLooks := .later }
def VtreeMovesCardSaid : Prop := Claim7.holds Tryz.pinned (.plain (OpenSpec.ofChange vtreeMovesSpec)) vtreeMovesCard

/-- THE TIED CARD OF 'rehearsallaw05.VtreeBinds'. -/
def vtreeBindsCard : Claim7 := { stood := { row := vtreeBindsRow, standIns := [], harness := (true, "20c9ab84badc9ad1103b44bfba30b4c5a34f5992e80014ba8b308637d23bc7db"), looks := true }, kinds := [], alts := [], laidByText := true, laidKinds := [.data, .pinned], laidTests := true, laidLooks := .later }
def VtreeBindsCardSaid : Prop := Claim7.holds Tryz.pinned (.plain (OpenSpec.ofChange vtreeBindsSpec)) vtreeBindsCard

/-- THE TIED CARD OF 'rehearsallaw05.VtreeNobody'. -/
def vtreeNobodyCard : Claim7 := { stood := { row := vtreeNobodyRow, standIns := [], harness := (true, "20c9ab84badc9ad1103b44bfba30b4c5a34f5992e80014ba8b308637d23bc7db"), looks := true }, kinds := [], alts := [], laidByText := true, laidKinds := [.data, .pinned], laidTests := true, laidLooks := .later }
def VtreeNobodyCardSaid : Prop := Claim7.holds Tryz.pinned (.plain (OpenSpec.ofChange vtreeNobodySpec)) vtreeNobodyCard

/-- THE SECOND FORM's CARD OF 'rehearsallaw05.VtreeWrites'. -/
def vtreeWritesUptoCard : Claim7 := { stood := { row := vtreeWritesUptoRow, standIns := [], harness := (true, "20c9ab84badc9ad1103b44bfba30b4c5a34f5992e80014ba8b308637d23bc7db"), looks := true }, kinds := [], alts := [], laidByText := true, laidKinds := [.data, .pinned], laidTests := true, laidLooks := .later }
def VtreeWritesUptoCardSaid : Prop := Claim7.holds Tryz.pinned (.plain (OpenSpec.upto vtreeWritesSpec)) vtreeWritesUptoCard

/-- THE SECOND FORM's CARD OF 'rehearsallaw05.VtreeNames'. -/
def vtreeNamesUptoCard : Claim7 := { stood := { row := vtreeNamesUptoRow, standIns := [], harness := (true, "20c9ab84badc9ad1103b44bfba30b4c5a34f5992e80014ba8b308637d23bc7db"), looks := true }, kinds := [], alts := [], laidByText := true, laidKinds := [.data, .pinned], laidTests := true, laidLooks := .later }
def VtreeNamesUptoCardSaid : Prop := Claim7.holds Tryz.pinned (.plain (OpenSpec.upto vtreeNamesSpec)) vtreeNamesUptoCard

/-- THE SECOND FORM's CARD OF 'rehearsallaw05.VtreeLinks'. -/
def vtreeLinksUptoCard : Claim7 := { stood := { row := vtreeLinksUptoRow, standIns := [], harness := (true, "20c9ab84badc9ad1103b44bfba30b4c5a34f5992e80014ba8b308637d23bc7db"), looks := true }, kinds := [], alts := [], laidByText := true, laidKinds := [.data, .pinned], laidTests := true, laidLooks := .later }
def VtreeLinksUptoCardSaid : Prop := Claim7.holds Tryz.pinned (.plain (OpenSpec.upto vtreeLinksSpec)) vtreeLinksUptoCard

/-- THE SECOND FORM's CARD OF 'rehearsallaw05.VtreeMoves'. -/
def vtreeMovesUptoCard : Claim7 := { stood := { row := vtreeMovesUptoRow, standIns := [], harness := (true, "20c9ab84badc9ad1103b44bfba30b4c5a34f5992e80014ba8b308637d23bc7db"), looks := true }, kinds := [], alts := [], laidByText := true, laidKinds := [.data, .pinned], laidTests := true, laidLooks := .later }
def VtreeMovesUptoCardSaid : Prop := Claim7.holds Tryz.pinned (.plain (OpenSpec.upto vtreeMovesSpec)) vtreeMovesUptoCard

/-- THE SECOND FORM's CARD OF 'rehearsallaw05.VtreeBinds'. -/
def vtreeBindsUptoCard : Claim7 := { stood := { row := vtreeBindsUptoRow, standIns := [], harness := (true, "20c9ab84badc9ad1103b44bfba30b4c5a34f5992e80014ba8b308637d23bc7db"), looks := true }, kinds := [], alts := [], laidByText := true, laidKinds := [.data, .pinned], laidTests := true, laidLooks := .later }
def VtreeBindsUptoCardSaid : Prop := Claim7.holds Tryz.pinned (.plain (OpenSpec.upto vtreeBindsSpec)) vtreeBindsUptoCard

/-- THE SECOND FORM's CARD OF 'rehearsallaw05.VtreeNobody'. -/
def vtreeNobodyUptoCard : Claim7 := { stood := { row := vtreeNobodyUptoRow, standIns := [], harness := (true, "20c9ab84badc9ad1103b44bfba30b4c5a34f5992e80014ba8b308637d23bc7db"), looks := true }, kinds := [], alts := [], laidByText := true, laidKinds := [.data, .pinned], laidTests := true, laidLooks := .later }
def VtreeNobodyUptoCardSaid : Prop := Claim7.holds Tryz.pinned (.plain (OpenSpec.upto vtreeNobodySpec)) vtreeNobodyUptoCard
end Rows
end Go.Proofs.YtpicgkoclbpjpaaGreatDoor
