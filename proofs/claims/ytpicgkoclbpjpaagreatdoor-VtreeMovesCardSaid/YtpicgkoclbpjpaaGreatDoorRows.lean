/-
  NARROWER THAN 'FOR EVERY INPUT', by the rows' own cells (each row's printed sentence says how): VtreeWrites: laid · VtreeNames: laid · VtreeLinks: laid · VtreeMoves: laid · VtreeBinds: laid · VtreeNobody: laid.
  DERIVED. THE GIVEN ROWS OF THIS SEAT. 6 by the template 'for every input the law returns true; each argument reads behind the call as it read before'; 0 by the template 'total and deterministic' (their statements: YtpicgkoclbpjpaaGreatDoorTotals.lean).
  GIVEN WITH THE SEED: the statements are not yours to turn. If you find one false, say at which input.
  Laid BY PROGRAM, IN A SANDBOX (cutbox-rows.mjs): the forced cells as the released guide's own fill.sh prints them over the translation 278c72ed784fed2c… (all of the seat's roots in one cut). By AI agents, Wed Nov 11 2026. No macro, syntax, notation, axiom, sorry.
-/
import Derived.Test.YtpicgkoclbpjpaaGreatDoorChecked
import GoSem.PinnedTables
import GoSem.Claim
import GoSem.ClaimJoined
import GoSem.ClaimMapViews
import Derived.JoinedTies
import Derived.KernelRfl
namespace Go.Proofs.YtpicgkoclbpjpaaGreatDoor
/- THE CELL 'sum', in the pinned program and in every row, IS THE sha256 OF THE DUMP (.gsa) THAT YtpicgkoclbpjpaaGreatDoorProg.lean LOADS. Nothing in Lean hashes anything: it is a label: what it is worth is what the hold of that sum in a sandbox is worth. -/
noncomputable def Tryz.pinned : Pinned := { name := "ytpicgkoclbpjpaagreatdoor", sum := "278c72ed784fed2c69fc1eea9a59ce7e14349543e6423d4f9e5a45aab5c1f159", checked := Tryz.checked }
namespace Rows
def none {H : Type} : Left H := { results := [], args := [] }

/- WHAT THE LISTED PACKAGE-LEVEL VARIABLES READ AS WHEN THE CALL BEGINS. Each datum BY PROGRAM (the guide's laid-datum.mjs) off the statement by which the dump's own 'gosem.cut.vars' lays the variable. In a bare row this is a premise. The card (YtpicgkoclbpjpaaGreatDoorCards.lean) ties it to the program's text. -/
def laid_unicode_utf8_acceptRanges {H : Type} : DataW H := .agg [.agg [.lit (.int .u8 128), .lit (.int .u8 191)], .agg [.lit (.int .u8 160), .lit (.int .u8 191)], .agg [.lit (.int .u8 128), .lit (.int .u8 159)], .agg [.lit (.int .u8 144), .lit (.int .u8 191)], .agg [.lit (.int .u8 128), .lit (.int .u8 143)], .agg [.lit (.int .u8 0), .lit (.int .u8 0)], .agg [.lit (.int .u8 0), .lit (.int .u8 0)], .agg [.lit (.int .u8 0), .lit (.int .u8 0)], .agg [.lit (.int .u8 0), .lit (.int .u8 0)], .agg [.lit (.int .u8 0), .lit (.int .u8 0)], .agg [.lit (.int .u8 0), .lit (.int .u8 0)], .agg [.lit (.int .u8 0), .lit (.int .u8 0)], .agg [.lit (.int .u8 0), .lit (.int .u8 0)], .agg [.lit (.int .u8 0), .lit (.int .u8 0)], .agg [.lit (.int .u8 0), .lit (.int .u8 0)], .agg [.lit (.int .u8 0), .lit (.int .u8 0)]]
/-- One of Go's own tables, pinned by name: the form's constant. -/
def laid_unicode_utf8_first : DataW Unit := Go.Pinned.utf8First

/-- 'rehearsallaw05.VtreeWrites': WHATEVER THE INPUT: true; the input reads as it did. -/
def vtreeWritesSpec : ChangeSpec := { name := "vtreeWrites", fn := fun _ => fun
  | [d1, d2, d3, d4, d5] => { results := [.lit (.bool true)], args := [d1, d2, d3, d4, d5] }
  | _ => none }
def vtreeWritesRow : OpenClaim := { program := "ytpicgkoclbpjpaagreatdoor", sum := "278c72ed784fed2c69fc1eea9a59ce7e14349543e6423d4f9e5a45aab5c1f159", func := "rehearsal/rehearsallaw05.VtreeWrites", spec := "vtreeWrites", inPlace := ["internal/bytealg.IndexByteString", "internal/bytealg.IndexString", "internal/bytealg.CountString"], unfollowed := true, recurses := true, named := ["internal/bytealg.MaxLen", "unicode/utf8.first", "unicode/utf8.acceptRanges"], apart := false, laid := [("unicode/utf8.acceptRanges", laid_unicode_utf8_acceptRanges), ("unicode/utf8.first", laid_unicode_utf8_first)] }
def VtreeWritesSaid : Prop := vtreeWritesRow.holds Tryz.pinned (OpenSpec.ofChange vtreeWritesSpec)

/-- ITS FALSE NEIGHBOUR: 'it returns false'. Refute it at one input. -/
def vtreeWritesWrong : ChangeSpec := { name := "vtreeWrites", fn := fun _ => fun
  | [d1, d2, d3, d4, d5] => { results := [.lit (.bool false)], args := [d1, d2, d3, d4, d5] }
  | _ => none }
def VtreeWritesWrongFalsely : Prop := vtreeWritesRow.holds Tryz.pinned (OpenSpec.ofChange vtreeWritesWrong)

/-- 'rehearsallaw05.VtreeNames': WHATEVER THE INPUT: true; the input reads as it did. -/
def vtreeNamesSpec : ChangeSpec := { name := "vtreeNames", fn := fun _ => fun
  | [d1, d2, d3, d4] => { results := [.lit (.bool true)], args := [d1, d2, d3, d4] }
  | _ => none }
def vtreeNamesRow : OpenClaim := { program := "ytpicgkoclbpjpaagreatdoor", sum := "278c72ed784fed2c69fc1eea9a59ce7e14349543e6423d4f9e5a45aab5c1f159", func := "rehearsal/rehearsallaw05.VtreeNames", spec := "vtreeNames", inPlace := ["internal/bytealg.IndexByteString", "internal/bytealg.IndexString", "internal/bytealg.CountString"], unfollowed := true, recurses := true, named := ["internal/bytealg.MaxLen", "unicode/utf8.first", "unicode/utf8.acceptRanges"], apart := false, laid := [("unicode/utf8.acceptRanges", laid_unicode_utf8_acceptRanges), ("unicode/utf8.first", laid_unicode_utf8_first)] }
def VtreeNamesSaid : Prop := vtreeNamesRow.holds Tryz.pinned (OpenSpec.ofChange vtreeNamesSpec)

/-- ITS FALSE NEIGHBOUR: 'it returns false'. Refute it at one input. -/
def vtreeNamesWrong : ChangeSpec := { name := "vtreeNames", fn := fun _ => fun
  | [d1, d2, d3, d4] => { results := [.lit (.bool false)], args := [d1, d2, d3, d4] }
  | _ => none }
def VtreeNamesWrongFalsely : Prop := vtreeNamesRow.holds Tryz.pinned (OpenSpec.ofChange vtreeNamesWrong)

/-- 'rehearsallaw05.VtreeLinks': WHATEVER THE INPUT: true; the input reads as it did. -/
def vtreeLinksSpec : ChangeSpec := { name := "vtreeLinks", fn := fun _ => fun
  | [d1, d2, d3, d4, d5] => { results := [.lit (.bool true)], args := [d1, d2, d3, d4, d5] }
  | _ => none }
def vtreeLinksRow : OpenClaim := { program := "ytpicgkoclbpjpaagreatdoor", sum := "278c72ed784fed2c69fc1eea9a59ce7e14349543e6423d4f9e5a45aab5c1f159", func := "rehearsal/rehearsallaw05.VtreeLinks", spec := "vtreeLinks", inPlace := ["internal/bytealg.IndexByteString", "internal/bytealg.IndexString", "internal/bytealg.CountString"], unfollowed := true, recurses := true, named := ["internal/bytealg.MaxLen", "unicode/utf8.first", "unicode/utf8.acceptRanges"], apart := false, laid := [("unicode/utf8.acceptRanges", laid_unicode_utf8_acceptRanges), ("unicode/utf8.first", laid_unicode_utf8_first)] }
def VtreeLinksSaid : Prop := vtreeLinksRow.holds Tryz.pinned (OpenSpec.ofChange vtreeLinksSpec)

/-- ITS FALSE NEIGHBOUR: 'it returns false'. Refute it at one input. -/
def vtreeLinksWrong : ChangeSpec := { name := "vtreeLinks", fn := fun _ => fun
  | [d1, d2, d3, d4, d5] => { results := [.lit (.bool false)], args := [d1, d2, d3, d4, d5] }
  | _ => none }
def VtreeLinksWrongFalsely : Prop := vtreeLinksRow.holds Tryz.pinned (OpenSpec.ofChange vtreeLinksWrong)

/-- 'rehearsallaw05.VtreeMoves': WHATEVER THE INPUT: true; the input reads as it did. -/
def vtreeMovesSpec : ChangeSpec := { name := "vtreeMoves", fn := fun _ => fun
  | [d1, d2, d3, d4] => { results := [.lit (.bool true)], args := [d1, d2, d3, d4] }
  | _ => none }
def vtreeMovesRow : OpenClaim := { program := "ytpicgkoclbpjpaagreatdoor", sum := "278c72ed784fed2c69fc1eea9a59ce7e14349543e6423d4f9e5a45aab5c1f159", func := "rehearsal/rehearsallaw05.VtreeMoves", spec := "vtreeMoves", inPlace := ["internal/bytealg.IndexByteString", "internal/bytealg.IndexString", "internal/bytealg.CountString"], unfollowed := true, recurses := true, named := ["internal/bytealg.MaxLen", "unicode/utf8.first", "unicode/utf8.acceptRanges"], apart := false, laid := [("unicode/utf8.acceptRanges", laid_unicode_utf8_acceptRanges), ("unicode/utf8.first", laid_unicode_utf8_first)] }
def VtreeMovesSaid : Prop := vtreeMovesRow.holds Tryz.pinned (OpenSpec.ofChange vtreeMovesSpec)

/-- ITS FALSE NEIGHBOUR: 'it returns false'. Refute it at one input. -/
def vtreeMovesWrong : ChangeSpec := { name := "vtreeMoves", fn := fun _ => fun
  | [d1, d2, d3, d4] => { results := [.lit (.bool false)], args := [d1, d2, d3, d4] }
  | _ => none }
def VtreeMovesWrongFalsely : Prop := vtreeMovesRow.holds Tryz.pinned (OpenSpec.ofChange vtreeMovesWrong)

/-- 'rehearsallaw05.VtreeBinds': WHATEVER THE INPUT: true; the input reads as it did. -/
def vtreeBindsSpec : ChangeSpec := { name := "vtreeBinds", fn := fun _ => fun
  | [d1, d2, d3, d4] => { results := [.lit (.bool true)], args := [d1, d2, d3, d4] }
  | _ => none }
def vtreeBindsRow : OpenClaim := { program := "ytpicgkoclbpjpaagreatdoor", sum := "278c72ed784fed2c69fc1eea9a59ce7e14349543e6423d4f9e5a45aab5c1f159", func := "rehearsal/rehearsallaw05.VtreeBinds", spec := "vtreeBinds", inPlace := ["internal/bytealg.IndexByteString", "internal/bytealg.IndexString", "internal/bytealg.CountString"], unfollowed := true, recurses := true, named := ["internal/bytealg.MaxLen", "unicode/utf8.first", "unicode/utf8.acceptRanges"], apart := false, laid := [("unicode/utf8.acceptRanges", laid_unicode_utf8_acceptRanges), ("unicode/utf8.first", laid_unicode_utf8_first)] }
def VtreeBindsSaid : Prop := vtreeBindsRow.holds Tryz.pinned (OpenSpec.ofChange vtreeBindsSpec)

/-- ITS FALSE NEIGHBOUR: 'it returns false'. Refute it at one input. -/
def vtreeBindsWrong : ChangeSpec := { name := "vtreeBinds", fn := fun _ => fun
  | [d1, d2, d3, d4] => { results := [.lit (.bool false)], args := [d1, d2, d3, d4] }
  | _ => none }
def VtreeBindsWrongFalsely : Prop := vtreeBindsRow.holds Tryz.pinned (OpenSpec.ofChange vtreeBindsWrong)

/-- 'rehearsallaw05.VtreeNobody': WHATEVER THE INPUT: true; the input reads as it did. -/
def vtreeNobodySpec : ChangeSpec := { name := "vtreeNobody", fn := fun _ => fun
  | [d1, d2] => { results := [.lit (.bool true)], args := [d1, d2] }
  | _ => none }
def vtreeNobodyRow : OpenClaim := { program := "ytpicgkoclbpjpaagreatdoor", sum := "278c72ed784fed2c69fc1eea9a59ce7e14349543e6423d4f9e5a45aab5c1f159", func := "rehearsal/rehearsallaw05.VtreeNobody", spec := "vtreeNobody", inPlace := ["internal/bytealg.IndexByteString", "internal/bytealg.IndexString", "internal/bytealg.CountString"], unfollowed := true, recurses := true, named := ["internal/bytealg.MaxLen", "unicode/utf8.first", "unicode/utf8.acceptRanges"], apart := false, laid := [("unicode/utf8.acceptRanges", laid_unicode_utf8_acceptRanges), ("unicode/utf8.first", laid_unicode_utf8_first)] }
def VtreeNobodySaid : Prop := vtreeNobodyRow.holds Tryz.pinned (OpenSpec.ofChange vtreeNobodySpec)

/-- ITS FALSE NEIGHBOUR: 'it returns false'. Refute it at one input. -/
def vtreeNobodyWrong : ChangeSpec := { name := "vtreeNobody", fn := fun _ => fun
  | [d1, d2] => { results := [.lit (.bool false)], args := [d1, d2] }
  | _ => none }
def VtreeNobodyWrongFalsely : Prop := vtreeNobodyRow.holds Tryz.pinned (OpenSpec.ofChange vtreeNobodyWrong)

/- THE SECOND FORM. 'bulk': how many values and letters a reading holds, each counted each time it is reached (what is shared counts as often as it is met; a slice's spare places count too). A statement '..UptoSaid' is the law's where the arguments, and the package variables that the reading takes, are together of bulk at most 1048576: NARROWER than '..Said'. Prove '..Said' where nothing that the law and all that it calls make is longer than what came in: it says more and counts as full. Else prove '..UptoSaid'. A law counts once. -/
mutual
def uptoBulk {H : Type} : DataW H → Nat
  | .lit (.string bytes) => bytes.length + 1
  | .lit _ => 1
  | .nil => 1
  | .ptr d => uptoBulk d + 1
  | .slice elems spare => uptoBulkAll elems + uptoBulkAll spare + 1
  | .agg parts => uptoBulkAll parts + 1
  | .iface _ d => uptoBulk d + 1
  | .map entries => uptoBulkEntries entries + 1
  | .held _ => 1
def uptoBulkAll {H : Type} : List (DataW H) → Nat
  | [] => 0
  | d :: r => uptoBulk d + uptoBulkAll r
def uptoBulkEntries {H : Type} : List (Lit × DataW H) → Nat
  | [] => 0
  | x :: r => uptoBulkEntry x + uptoBulkEntries r
def uptoBulkEntry {H : Type} : Lit × DataW H → Nat
  | (.string bytes, d) => bytes.length + uptoBulk d + 1
  | (_, d) => uptoBulk d + 1
 end
def uptoSmall : (H : Type) → List (DataW H) → Bool := fun _ ds => decide (uptoBulkAll ds ≤ 1048576)
def OpenSpec.upto (s : _root_.Go.ChangeSpec) : _root_.Go.OpenSpec := { _root_.Go.OpenSpec.ofChange s with cond := some uptoSmall }

/-- 'rehearsallaw05.VtreeWrites', WHERE WHAT IT READS IS OF BULK AT MOST 1048576: true; the input reads as it did. -/
def vtreeWritesUptoRow : OpenClaim := { program := "ytpicgkoclbpjpaagreatdoor", sum := "278c72ed784fed2c69fc1eea9a59ce7e14349543e6423d4f9e5a45aab5c1f159", func := "rehearsal/rehearsallaw05.VtreeWrites", spec := "vtreeWrites", inPlace := ["internal/bytealg.IndexByteString", "internal/bytealg.IndexString", "internal/bytealg.CountString"], unfollowed := true, recurses := true, named := ["internal/bytealg.MaxLen", "unicode/utf8.first", "unicode/utf8.acceptRanges"], apart := false, laid := [("unicode/utf8.acceptRanges", laid_unicode_utf8_acceptRanges), ("unicode/utf8.first", laid_unicode_utf8_first)], narrowed := true }
def VtreeWritesUptoSaid : Prop := vtreeWritesUptoRow.holds Tryz.pinned (OpenSpec.upto vtreeWritesSpec)

/-- 'rehearsallaw05.VtreeNames', WHERE WHAT IT READS IS OF BULK AT MOST 1048576: true; the input reads as it did. -/
def vtreeNamesUptoRow : OpenClaim := { program := "ytpicgkoclbpjpaagreatdoor", sum := "278c72ed784fed2c69fc1eea9a59ce7e14349543e6423d4f9e5a45aab5c1f159", func := "rehearsal/rehearsallaw05.VtreeNames", spec := "vtreeNames", inPlace := ["internal/bytealg.IndexByteString", "internal/bytealg.IndexString", "internal/bytealg.CountString"], unfollowed := true, recurses := true, named := ["internal/bytealg.MaxLen", "unicode/utf8.first", "unicode/utf8.acceptRanges"], apart := false, laid := [("unicode/utf8.acceptRanges", laid_unicode_utf8_acceptRanges), ("unicode/utf8.first", laid_unicode_utf8_first)], narrowed := true }
def VtreeNamesUptoSaid : Prop := vtreeNamesUptoRow.holds Tryz.pinned (OpenSpec.upto vtreeNamesSpec)

/-- 'rehearsallaw05.VtreeLinks', WHERE WHAT IT READS IS OF BULK AT MOST 1048576: true; the input reads as it did. -/
def vtreeLinksUptoRow : OpenClaim := { program := "ytpicgkoclbpjpaagreatdoor", sum := "278c72ed784fed2c69fc1eea9a59ce7e14349543e6423d4f9e5a45aab5c1f159", func := "rehearsal/rehearsallaw05.VtreeLinks", spec := "vtreeLinks", inPlace := ["internal/bytealg.IndexByteString", "internal/bytealg.IndexString", "internal/bytealg.CountString"], unfollowed := true, recurses := true, named := ["internal/bytealg.MaxLen", "unicode/utf8.first", "unicode/utf8.acceptRanges"], apart := false, laid := [("unicode/utf8.acceptRanges", laid_unicode_utf8_acceptRanges), ("unicode/utf8.first", laid_unicode_utf8_first)], narrowed := true }
def VtreeLinksUptoSaid : Prop := vtreeLinksUptoRow.holds Tryz.pinned (OpenSpec.upto vtreeLinksSpec)

/-- 'rehearsallaw05.VtreeMoves', WHERE WHAT IT READS IS OF BULK AT MOST 1048576: true; the input reads as it did. -/
def vtreeMovesUptoRow : OpenClaim := { program := "ytpicgkoclbpjpaagreatdoor", sum := "278c72ed784fed2c69fc1eea9a59ce7e14349543e6423d4f9e5a45aab5c1f159", func := "rehearsal/rehearsallaw05.VtreeMoves", spec := "vtreeMoves", inPlace := ["internal/bytealg.IndexByteString", "internal/bytealg.IndexString", "internal/bytealg.CountString"], unfollowed := true, recurses := true, named := ["internal/bytealg.MaxLen", "unicode/utf8.first", "unicode/utf8.acceptRanges"], apart := false, laid := [("unicode/utf8.acceptRanges", laid_unicode_utf8_acceptRanges), ("unicode/utf8.first", laid_unicode_utf8_first)], narrowed := true }
def VtreeMovesUptoSaid : Prop := vtreeMovesUptoRow.holds Tryz.pinned (OpenSpec.upto vtreeMovesSpec)

/-- 'rehearsallaw05.VtreeBinds', WHERE WHAT IT READS IS OF BULK AT MOST 1048576: true; the input reads as it did. -/
def vtreeBindsUptoRow : OpenClaim := { program := "ytpicgkoclbpjpaagreatdoor", sum := "278c72ed784fed2c69fc1eea9a59ce7e14349543e6423d4f9e5a45aab5c1f159", func := "rehearsal/rehearsallaw05.VtreeBinds", spec := "vtreeBinds", inPlace := ["internal/bytealg.IndexByteString", "internal/bytealg.IndexString", "internal/bytealg.CountString"], unfollowed := true, recurses := true, named := ["internal/bytealg.MaxLen", "unicode/utf8.first", "unicode/utf8.acceptRanges"], apart := false, laid := [("unicode/utf8.acceptRanges", laid_unicode_utf8_acceptRanges), ("unicode/utf8.first", laid_unicode_utf8_first)], narrowed := true }
def VtreeBindsUptoSaid : Prop := vtreeBindsUptoRow.holds Tryz.pinned (OpenSpec.upto vtreeBindsSpec)

/-- 'rehearsallaw05.VtreeNobody', WHERE WHAT IT READS IS OF BULK AT MOST 1048576: true; the input reads as it did. -/
def vtreeNobodyUptoRow : OpenClaim := { program := "ytpicgkoclbpjpaagreatdoor", sum := "278c72ed784fed2c69fc1eea9a59ce7e14349543e6423d4f9e5a45aab5c1f159", func := "rehearsal/rehearsallaw05.VtreeNobody", spec := "vtreeNobody", inPlace := ["internal/bytealg.IndexByteString", "internal/bytealg.IndexString", "internal/bytealg.CountString"], unfollowed := true, recurses := true, named := ["internal/bytealg.MaxLen", "unicode/utf8.first", "unicode/utf8.acceptRanges"], apart := false, laid := [("unicode/utf8.acceptRanges", laid_unicode_utf8_acceptRanges), ("unicode/utf8.first", laid_unicode_utf8_first)], narrowed := true }
def VtreeNobodyUptoSaid : Prop := vtreeNobodyUptoRow.holds Tryz.pinned (OpenSpec.upto vtreeNobodySpec)

end Rows
end Go.Proofs.YtpicgkoclbpjpaaGreatDoor
