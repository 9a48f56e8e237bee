/-
  DERIVED. GIVEN WITH THE SEED: THE CARDS: each row of YtdegkfnlafgheaaDoorRows.lean that lists a variable, with what it lists TIED to the program's text (the seventh form; the later family's looks); each row that meets fmt, with fmt's text TOLD by the authors' own Lean function (tested against real Go, not proved from fmt's source: count such statements apart). THE CARD IS WHAT COUNTS. Prove the row's statement (the work); the ties are given (YtdegkfnlafgheaaDoorTie.lean); close each card by the builder's one call (the guide's Derived/Test/ToyasCard.lean, 'card_holds'). Laid BY PROGRAM, IN A SANDBOX (cutbox-door.mjs). By AI agents, Wed Nov 11 2026. No macro, syntax, notation, axiom, sorry.
-/
import Derived.Test.YtdegkfnlafgheaaDoorRows
import GoSem.ClaimSeven
namespace Go.Proofs.YtdegkfnlafgheaaDoor
namespace Rows

/-- THE TIED CARD OF 'rehearsallaw10.ArithGroups'. -/
def arithGroupsCard : Claim7 := { stood := { row := arithGroupsRow, standIns := [], harness := (true, "cadfae327f7e2ecedd2832efcd56d00c1db229c67323a41090a988abcf5b7d2f"), looks := false }, kinds := [], alts := [], laidByText := true, laidKinds := [.data, .data, .pinned], laidTests := true, laidLooks := .later }
def ArithGroupsCardSaid : Prop := Claim7.holds Tryd.pinned (.plain (OpenSpec.ofChange arithGroupsSpec)) arithGroupsCard

/-- THE TIED CARD OF 'rehearsallaw10.ArithAlone'. -/
def arithAloneCard : Claim7 := { stood := { row := arithAloneRow, standIns := [], harness := (true, "cadfae327f7e2ecedd2832efcd56d00c1db229c67323a41090a988abcf5b7d2f"), looks := false }, kinds := [], alts := [], laidByText := true, laidKinds := [.data, .data, .pinned], laidTests := true, laidLooks := .later }
def ArithAloneCardSaid : Prop := Claim7.holds Tryd.pinned (.plain (OpenSpec.ofChange arithAloneSpec)) arithAloneCard

/-- THE TIED CARD OF 'rehearsallaw10.ArithGives'. -/
def arithGivesCard : Claim7 := { stood := { row := arithGivesRow, standIns := [], harness := (true, "cadfae327f7e2ecedd2832efcd56d00c1db229c67323a41090a988abcf5b7d2f"), looks := false }, kinds := [], alts := [], laidByText := true, laidKinds := [.data, .data, .pinned], laidTests := true, laidLooks := .later }
def ArithGivesCardSaid : Prop := Claim7.holds Tryd.pinned (.plain (OpenSpec.ofChange arithGivesSpec)) arithGivesCard

/-- THE TIED CARD OF 'rehearsallaw10.ArithLazy'. -/
def arithLazyCard : Claim7 := { stood := { row := arithLazyRow, standIns := [], harness := (true, "cadfae327f7e2ecedd2832efcd56d00c1db229c67323a41090a988abcf5b7d2f"), looks := false }, kinds := [], alts := [], laidByText := true, laidKinds := [.data, .data, .pinned], laidTests := true, laidLooks := .later }
def ArithLazyCardSaid : Prop := Claim7.holds Tryd.pinned (.plain (OpenSpec.ofChange arithLazySpec)) arithLazyCard

/-- THE SECOND FORM's CARD OF 'rehearsallaw10.ArithGroups'. -/
def arithGroupsUptoCard : Claim7 := { stood := { row := arithGroupsUptoRow, standIns := [], harness := (true, "cadfae327f7e2ecedd2832efcd56d00c1db229c67323a41090a988abcf5b7d2f"), looks := false }, kinds := [], alts := [], laidByText := true, laidKinds := [.data, .data, .pinned], laidTests := true, laidLooks := .later }
def ArithGroupsUptoCardSaid : Prop := Claim7.holds Tryd.pinned (.plain (OpenSpec.upto arithGroupsSpec)) arithGroupsUptoCard

/-- THE SECOND FORM's CARD OF 'rehearsallaw10.ArithAlone'. -/
def arithAloneUptoCard : Claim7 := { stood := { row := arithAloneUptoRow, standIns := [], harness := (true, "cadfae327f7e2ecedd2832efcd56d00c1db229c67323a41090a988abcf5b7d2f"), looks := false }, kinds := [], alts := [], laidByText := true, laidKinds := [.data, .data, .pinned], laidTests := true, laidLooks := .later }
def ArithAloneUptoCardSaid : Prop := Claim7.holds Tryd.pinned (.plain (OpenSpec.upto arithAloneSpec)) arithAloneUptoCard

/-- THE SECOND FORM's CARD OF 'rehearsallaw10.ArithGives'. -/
def arithGivesUptoCard : Claim7 := { stood := { row := arithGivesUptoRow, standIns := [], harness := (true, "cadfae327f7e2ecedd2832efcd56d00c1db229c67323a41090a988abcf5b7d2f"), looks := false }, kinds := [], alts := [], laidByText := true, laidKinds := [.data, .data, .pinned], laidTests := true, laidLooks := .later }
def ArithGivesUptoCardSaid : Prop := Claim7.holds Tryd.pinned (.plain (OpenSpec.upto arithGivesSpec)) arithGivesUptoCard

/-- THE SECOND FORM's CARD OF 'rehearsallaw10.ArithLazy'. -/
def arithLazyUptoCard : Claim7 := { stood := { row := arithLazyUptoRow, standIns := [], harness := (true, "cadfae327f7e2ecedd2832efcd56d00c1db229c67323a41090a988abcf5b7d2f"), looks := false }, kinds := [], alts := [], laidByText := true, laidKinds := [.data, .data, .pinned], laidTests := true, laidLooks := .later }
def ArithLazyUptoCardSaid : Prop := Claim7.holds Tryd.pinned (.plain (OpenSpec.upto arithLazySpec)) arithLazyUptoCard
end Rows
end Go.Proofs.YtdegkfnlafgheaaDoor
