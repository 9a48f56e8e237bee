/-
  No cell of these rows narrows 'for every input' (looked for: loops, veiled, ifaces, maps, wideKeys, modest, calm, conditions, laid).
  DERIVED. THE GIVEN ROWS OF THIS SEAT. 6 by the template 'for every input the law returns true; each argument reads behind the call as it read before'; 0 by the template 'total and deterministic' (their statements: YtkmfgdflgeajpaaTotals.lean).
  GIVEN WITH THE SEED: the statements are not yours to turn. If you find one false, say at which input.
  Laid BY PROGRAM, IN A SANDBOX (cutbox-rows.mjs): the forced cells as the released guide's own fill.sh prints them over the translation 34f10e00cb08e56e… (all of the seat's roots in one cut). By AI agents, Wed Nov 11 2026. No macro, syntax, notation, axiom, sorry.
-/
import Derived.Test.YtkmfgdflgeajpaaChecked
import GoSem.Claim
import GoSem.ClaimJoined
import GoSem.ClaimMapViews
import Derived.JoinedTies
import Derived.KernelRfl
namespace Go.Proofs.Ytkmfgdflgeajpaa
/- THE CELL 'sum', in the pinned program and in every row, IS THE sha256 OF THE DUMP (.gsa) THAT YtkmfgdflgeajpaaProg.lean LOADS. Nothing in Lean hashes anything: it is a label: what it is worth is what the hold of that sum in a sandbox is worth. -/
noncomputable def Try.pinned : Pinned := { name := "ytkmfgdflgeajpaa", sum := "34f10e00cb08e56e6c2523ad61335a242fc8c716ae10f5aefd78f0bebac74d32", checked := Try.checked }
namespace Rows
def none {H : Type} : Left H := { results := [], args := [] }

/-- 'rehearsallaw01.NumTexts': WHATEVER THE INPUT: true; the input reads as it did. -/
def numTextsSpec : ChangeSpec := { name := "numTexts", fn := fun _ => fun
  | [d1, d2, d3] => { results := [.lit (.bool true)], args := [d1, d2, d3] }
  | _ => none }
def numTextsRow : OpenClaim := { program := "ytkmfgdflgeajpaa", sum := "34f10e00cb08e56e6c2523ad61335a242fc8c716ae10f5aefd78f0bebac74d32", func := "rehearsal/rehearsallaw01.NumTexts", spec := "numTexts", recurses := true, apart := false }
def NumTextsSaid : Prop := numTextsRow.holds Try.pinned (OpenSpec.ofChange numTextsSpec)

/-- ITS FALSE NEIGHBOUR: 'it returns false'. Refute it at one input. -/
def numTextsWrong : ChangeSpec := { name := "numTexts", fn := fun _ => fun
  | [d1, d2, d3] => { results := [.lit (.bool false)], args := [d1, d2, d3] }
  | _ => none }
def NumTextsWrongFalsely : Prop := numTextsRow.holds Try.pinned (OpenSpec.ofChange numTextsWrong)

/-- 'rehearsallaw01.NumDecimals': WHATEVER THE INPUT: true; the input reads as it did. -/
def numDecimalsSpec : ChangeSpec := { name := "numDecimals", fn := fun _ => fun
  | [d] => { results := [.lit (.bool true)], args := [d] }
  | _ => none }
def numDecimalsRow : OpenClaim := { program := "ytkmfgdflgeajpaa", sum := "34f10e00cb08e56e6c2523ad61335a242fc8c716ae10f5aefd78f0bebac74d32", func := "rehearsal/rehearsallaw01.NumDecimals", spec := "numDecimals", apart := false }
def NumDecimalsSaid : Prop := numDecimalsRow.holds Try.pinned (OpenSpec.ofChange numDecimalsSpec)

/-- ITS FALSE NEIGHBOUR: 'it returns false'. Refute it at one input. -/
def numDecimalsWrong : ChangeSpec := { name := "numDecimals", fn := fun _ => fun
  | [d] => { results := [.lit (.bool false)], args := [d] }
  | _ => none }
def NumDecimalsWrongFalsely : Prop := numDecimalsRow.holds Try.pinned (OpenSpec.ofChange numDecimalsWrong)

/-- 'rehearsallaw01.NumConstants': WHATEVER THE INPUT: true; the input reads as it did. -/
def numConstantsSpec : ChangeSpec := { name := "numConstants", fn := fun _ => fun
  | [d] => { results := [.lit (.bool true)], args := [d] }
  | _ => none }
def numConstantsRow : OpenClaim := { program := "ytkmfgdflgeajpaa", sum := "34f10e00cb08e56e6c2523ad61335a242fc8c716ae10f5aefd78f0bebac74d32", func := "rehearsal/rehearsallaw01.NumConstants", spec := "numConstants", apart := false }
def NumConstantsSaid : Prop := numConstantsRow.holds Try.pinned (OpenSpec.ofChange numConstantsSpec)

/-- ITS FALSE NEIGHBOUR: 'it returns false'. Refute it at one input. -/
def numConstantsWrong : ChangeSpec := { name := "numConstants", fn := fun _ => fun
  | [d] => { results := [.lit (.bool false)], args := [d] }
  | _ => none }
def NumConstantsWrongFalsely : Prop := numConstantsRow.holds Try.pinned (OpenSpec.ofChange numConstantsWrong)

/-- 'rehearsallaw01.NumModes': WHATEVER THE INPUT: true; the input reads as it did. -/
def numModesSpec : ChangeSpec := { name := "numModes", fn := fun _ => fun
  | [d] => { results := [.lit (.bool true)], args := [d] }
  | _ => none }
def numModesRow : OpenClaim := { program := "ytkmfgdflgeajpaa", sum := "34f10e00cb08e56e6c2523ad61335a242fc8c716ae10f5aefd78f0bebac74d32", func := "rehearsal/rehearsallaw01.NumModes", spec := "numModes", apart := false }
def NumModesSaid : Prop := numModesRow.holds Try.pinned (OpenSpec.ofChange numModesSpec)

/-- ITS FALSE NEIGHBOUR: 'it returns false'. Refute it at one input. -/
def numModesWrong : ChangeSpec := { name := "numModes", fn := fun _ => fun
  | [d] => { results := [.lit (.bool false)], args := [d] }
  | _ => none }
def NumModesWrongFalsely : Prop := numModesRow.holds Try.pinned (OpenSpec.ofChange numModesWrong)

/-- 'rehearsallaw01.NumBack': WHATEVER THE INPUT: true; the input reads as it did. -/
def numBackSpec : ChangeSpec := { name := "numBack", fn := fun _ => fun
  | [d] => { results := [.lit (.bool true)], args := [d] }
  | _ => none }
def numBackRow : OpenClaim := { program := "ytkmfgdflgeajpaa", sum := "34f10e00cb08e56e6c2523ad61335a242fc8c716ae10f5aefd78f0bebac74d32", func := "rehearsal/rehearsallaw01.NumBack", spec := "numBack", apart := false }
def NumBackSaid : Prop := numBackRow.holds Try.pinned (OpenSpec.ofChange numBackSpec)

/-- ITS FALSE NEIGHBOUR: 'it returns false'. Refute it at one input. -/
def numBackWrong : ChangeSpec := { name := "numBack", fn := fun _ => fun
  | [d] => { results := [.lit (.bool false)], args := [d] }
  | _ => none }
def NumBackWrongFalsely : Prop := numBackRow.holds Try.pinned (OpenSpec.ofChange numBackWrong)

/-- 'rehearsallaw01.NumApart': WHATEVER THE INPUT: true; the input reads as it did. -/
def numApartSpec : ChangeSpec := { name := "numApart", fn := fun _ => fun
  | [d1, d2, d3] => { results := [.lit (.bool true)], args := [d1, d2, d3] }
  | _ => none }
def numApartRow : OpenClaim := { program := "ytkmfgdflgeajpaa", sum := "34f10e00cb08e56e6c2523ad61335a242fc8c716ae10f5aefd78f0bebac74d32", func := "rehearsal/rehearsallaw01.NumApart", spec := "numApart", apart := false }
def NumApartSaid : Prop := numApartRow.holds Try.pinned (OpenSpec.ofChange numApartSpec)

/-- ITS FALSE NEIGHBOUR: 'it returns false'. Refute it at one input. -/
def numApartWrong : ChangeSpec := { name := "numApart", fn := fun _ => fun
  | [d1, d2, d3] => { results := [.lit (.bool false)], args := [d1, d2, d3] }
  | _ => none }
def NumApartWrongFalsely : Prop := numApartRow.holds Try.pinned (OpenSpec.ofChange numApartWrong)

/- THE SECOND FORM. 'bulk': how many values and letters a reading holds, each counted each time it is reached (what is shared counts as often as it is met; a slice's spare places count too). A statement '..UptoSaid' is the law's where the arguments, and the package variables that the reading takes, are together of bulk at most 1048576: NARROWER than '..Said'. Prove '..Said' where nothing that the law and all that it calls make is longer than what came in: it says more and counts as full. Else prove '..UptoSaid'. A law counts once. -/
mutual
def uptoBulk {H : Type} : DataW H → Nat
  | .lit (.string bytes) => bytes.length + 1
  | .lit _ => 1
  | .nil => 1
  | .ptr d => uptoBulk d + 1
  | .slice elems spare => uptoBulkAll elems + uptoBulkAll spare + 1
  | .agg parts => uptoBulkAll parts + 1
  | .iface _ d => uptoBulk d + 1
  | .map entries => uptoBulkEntries entries + 1
  | .held _ => 1
def uptoBulkAll {H : Type} : List (DataW H) → Nat
  | [] => 0
  | d :: r => uptoBulk d + uptoBulkAll r
def uptoBulkEntries {H : Type} : List (Lit × DataW H) → Nat
  | [] => 0
  | x :: r => uptoBulkEntry x + uptoBulkEntries r
def uptoBulkEntry {H : Type} : Lit × DataW H → Nat
  | (.string bytes, d) => bytes.length + uptoBulk d + 1
  | (_, d) => uptoBulk d + 1
 end
def uptoSmall : (H : Type) → List (DataW H) → Bool := fun _ ds => decide (uptoBulkAll ds ≤ 1048576)
def OpenSpec.upto (s : _root_.Go.ChangeSpec) : _root_.Go.OpenSpec := { _root_.Go.OpenSpec.ofChange s with cond := some uptoSmall }

/-- 'rehearsallaw01.NumTexts', WHERE WHAT IT READS IS OF BULK AT MOST 1048576: true; the input reads as it did. -/
def numTextsUptoRow : OpenClaim := { program := "ytkmfgdflgeajpaa", sum := "34f10e00cb08e56e6c2523ad61335a242fc8c716ae10f5aefd78f0bebac74d32", func := "rehearsal/rehearsallaw01.NumTexts", spec := "numTexts", recurses := true, apart := false, narrowed := true }
def NumTextsUptoSaid : Prop := numTextsUptoRow.holds Try.pinned (OpenSpec.upto numTextsSpec)

/-- 'rehearsallaw01.NumDecimals', WHERE WHAT IT READS IS OF BULK AT MOST 1048576: true; the input reads as it did. -/
def numDecimalsUptoRow : OpenClaim := { program := "ytkmfgdflgeajpaa", sum := "34f10e00cb08e56e6c2523ad61335a242fc8c716ae10f5aefd78f0bebac74d32", func := "rehearsal/rehearsallaw01.NumDecimals", spec := "numDecimals", apart := false, narrowed := true }
def NumDecimalsUptoSaid : Prop := numDecimalsUptoRow.holds Try.pinned (OpenSpec.upto numDecimalsSpec)

/-- 'rehearsallaw01.NumConstants', WHERE WHAT IT READS IS OF BULK AT MOST 1048576: true; the input reads as it did. -/
def numConstantsUptoRow : OpenClaim := { program := "ytkmfgdflgeajpaa", sum := "34f10e00cb08e56e6c2523ad61335a242fc8c716ae10f5aefd78f0bebac74d32", func := "rehearsal/rehearsallaw01.NumConstants", spec := "numConstants", apart := false, narrowed := true }
def NumConstantsUptoSaid : Prop := numConstantsUptoRow.holds Try.pinned (OpenSpec.upto numConstantsSpec)

/-- 'rehearsallaw01.NumModes', WHERE WHAT IT READS IS OF BULK AT MOST 1048576: true; the input reads as it did. -/
def numModesUptoRow : OpenClaim := { program := "ytkmfgdflgeajpaa", sum := "34f10e00cb08e56e6c2523ad61335a242fc8c716ae10f5aefd78f0bebac74d32", func := "rehearsal/rehearsallaw01.NumModes", spec := "numModes", apart := false, narrowed := true }
def NumModesUptoSaid : Prop := numModesUptoRow.holds Try.pinned (OpenSpec.upto numModesSpec)

/-- 'rehearsallaw01.NumBack', WHERE WHAT IT READS IS OF BULK AT MOST 1048576: true; the input reads as it did. -/
def numBackUptoRow : OpenClaim := { program := "ytkmfgdflgeajpaa", sum := "34f10e00cb08e56e6c2523ad61335a242fc8c716ae10f5aefd78f0bebac74d32", func := "rehearsal/rehearsallaw01.NumBack", spec := "numBack", apart := false, narrowed := true }
def NumBackUptoSaid : Prop := numBackUptoRow.holds Try.pinned (OpenSpec.upto numBackSpec)

/-- 'rehearsallaw01.NumApart', WHERE WHAT IT READS IS OF BULK AT MOST 1048576: true; the input reads as it did. -/
def numApartUptoRow : OpenClaim := { program := "ytkmfgdflgeajpaa", sum := "34f10e00cb08e56e6c2523ad61335a242fc8c716ae10f5aefd78f0bebac74d32", func := "rehearsal/rehearsallaw01.NumApart", spec := "numApart", apart := false, narrowed := true }
def NumApartUptoSaid : Prop := numApartUptoRow.holds Try.pinned (OpenSpec.upto numApartSpec)

end Rows
end Go.Proofs.Ytkmfgdflgeajpaa
