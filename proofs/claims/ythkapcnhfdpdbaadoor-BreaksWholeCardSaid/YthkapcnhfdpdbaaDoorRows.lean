/-
  NARROWER THAN 'FOR EVERY INPUT', by the rows' own cells (each row's printed sentence says how): BreaksWhere: laid · BreaksLines: laid · BreaksLocal: laid · BreaksWhole: laid.
  DERIVED. THE GIVEN ROWS OF THIS SEAT. 4 by the template 'for every input the law returns true; each argument reads behind the call as it read before'; 0 by the template 'total and deterministic' (their statements: YthkapcnhfdpdbaaDoorTotals.lean).
  GIVEN WITH THE SEED: the statements are not yours to turn. If you find one false, say at which input.
  Laid BY PROGRAM, IN A SANDBOX (cutbox-rows.mjs): the forced cells as the released guide's own fill.sh prints them over the translation 07a22d1a19b2f096… (all of the seat's roots in one cut). By AI agents, Wed Nov 11 2026. No macro, syntax, notation, axiom, sorry.
-/
import Derived.Test.YthkapcnhfdpdbaaDoorChecked
import GoSem.PinnedTables
import GoSem.Claim
import GoSem.ClaimJoined
import GoSem.ClaimMapViews
import Derived.JoinedTies
import Derived.KernelRfl
namespace Go.Proofs.YthkapcnhfdpdbaaDoor
/- THE CELL 'sum', in the pinned program and in every row, IS THE sha256 OF THE DUMP (.gsa) THAT YthkapcnhfdpdbaaDoorProg.lean LOADS. Nothing in Lean hashes anything: it is a label: what it is worth is what the hold of that sum in a sandbox is worth. -/
noncomputable def Tryd.pinned : Pinned := { name := "ythkapcnhfdpdbaadoor", sum := "07a22d1a19b2f096589c2d725cb24388350ed431194c5cb618d2f4624d226230", checked := Tryd.checked }
namespace Rows
def none {H : Type} : Left H := { results := [], args := [] }

/- WHAT THE LISTED PACKAGE-LEVEL VARIABLES READ AS WHEN THE CALL BEGINS. Each datum BY PROGRAM (the guide's laid-datum.mjs) off the statement by which the dump's own 'gosem.cut.vars' lays the variable. In a bare row this is a premise. The card (YthkapcnhfdpdbaaDoorCards.lean) ties it to the program's text. -/
def laid_unicode_utf8_acceptRanges {H : Type} : DataW H := .agg [.agg [.lit (.int .u8 128), .lit (.int .u8 191)], .agg [.lit (.int .u8 160), .lit (.int .u8 191)], .agg [.lit (.int .u8 128), .lit (.int .u8 159)], .agg [.lit (.int .u8 144), .lit (.int .u8 191)], .agg [.lit (.int .u8 128), .lit (.int .u8 143)], .agg [.lit (.int .u8 0), .lit (.int .u8 0)], .agg [.lit (.int .u8 0), .lit (.int .u8 0)], .agg [.lit (.int .u8 0), .lit (.int .u8 0)], .agg [.lit (.int .u8 0), .lit (.int .u8 0)], .agg [.lit (.int .u8 0), .lit (.int .u8 0)], .agg [.lit (.int .u8 0), .lit (.int .u8 0)], .agg [.lit (.int .u8 0), .lit (.int .u8 0)], .agg [.lit (.int .u8 0), .lit (.int .u8 0)], .agg [.lit (.int .u8 0), .lit (.int .u8 0)], .agg [.lit (.int .u8 0), .lit (.int .u8 0)], .agg [.lit (.int .u8 0), .lit (.int .u8 0)]]
/-- One of Go's own tables, pinned by name: the form's constant. -/
def laid_unicode_utf8_first : DataW Unit := Go.Pinned.utf8First

/-- 'shuttlelaw13.BreaksWhere': WHATEVER THE INPUT: true; the input reads as it did. -/
def breaksWhereSpec : ChangeSpec := { name := "breaksWhere", fn := fun _ => fun
  | [d] => { results := [.lit (.bool true)], args := [d] }
  | _ => none }
def breaksWhereRow : OpenClaim := { program := "ythkapcnhfdpdbaadoor", sum := "07a22d1a19b2f096589c2d725cb24388350ed431194c5cb618d2f4624d226230", func := "shuttle/shuttlelaw13.BreaksWhere", spec := "breaksWhere", unfollowed := true, recurses := true, named := ["unicode/utf8.first", "unicode/utf8.acceptRanges"], apart := false, laid := [("unicode/utf8.acceptRanges", laid_unicode_utf8_acceptRanges), ("unicode/utf8.first", laid_unicode_utf8_first)] }
def BreaksWhereSaid : Prop := breaksWhereRow.holds Tryd.pinned (OpenSpec.ofChange breaksWhereSpec)

/-- ITS FALSE NEIGHBOUR: 'it returns false'. Refute it at one input. -/
def breaksWhereWrong : ChangeSpec := { name := "breaksWhere", fn := fun _ => fun
  | [d] => { results := [.lit (.bool false)], args := [d] }
  | _ => none }
def BreaksWhereWrongFalsely : Prop := breaksWhereRow.holds Tryd.pinned (OpenSpec.ofChange breaksWhereWrong)

/-- 'shuttlelaw13.BreaksLines': WHATEVER THE INPUT: true; the input reads as it did. -/
def breaksLinesSpec : ChangeSpec := { name := "breaksLines", fn := fun _ => fun
  | [d1, d2] => { results := [.lit (.bool true)], args := [d1, d2] }
  | _ => none }
def breaksLinesRow : OpenClaim := { program := "ythkapcnhfdpdbaadoor", sum := "07a22d1a19b2f096589c2d725cb24388350ed431194c5cb618d2f4624d226230", func := "shuttle/shuttlelaw13.BreaksLines", spec := "breaksLines", unfollowed := true, recurses := true, named := ["unicode/utf8.first", "unicode/utf8.acceptRanges"], apart := false, laid := [("unicode/utf8.acceptRanges", laid_unicode_utf8_acceptRanges), ("unicode/utf8.first", laid_unicode_utf8_first)] }
def BreaksLinesSaid : Prop := breaksLinesRow.holds Tryd.pinned (OpenSpec.ofChange breaksLinesSpec)

/-- ITS FALSE NEIGHBOUR: 'it returns false'. Refute it at one input. -/
def breaksLinesWrong : ChangeSpec := { name := "breaksLines", fn := fun _ => fun
  | [d1, d2] => { results := [.lit (.bool false)], args := [d1, d2] }
  | _ => none }
def BreaksLinesWrongFalsely : Prop := breaksLinesRow.holds Tryd.pinned (OpenSpec.ofChange breaksLinesWrong)

/-- 'shuttlelaw13.BreaksLocal': WHATEVER THE INPUT: true; the input reads as it did. -/
def breaksLocalSpec : ChangeSpec := { name := "breaksLocal", fn := fun _ => fun
  | [d1, d2] => { results := [.lit (.bool true)], args := [d1, d2] }
  | _ => none }
def breaksLocalRow : OpenClaim := { program := "ythkapcnhfdpdbaadoor", sum := "07a22d1a19b2f096589c2d725cb24388350ed431194c5cb618d2f4624d226230", func := "shuttle/shuttlelaw13.BreaksLocal", spec := "breaksLocal", unfollowed := true, recurses := true, named := ["unicode/utf8.first", "unicode/utf8.acceptRanges"], apart := false, laid := [("unicode/utf8.acceptRanges", laid_unicode_utf8_acceptRanges), ("unicode/utf8.first", laid_unicode_utf8_first)] }
def BreaksLocalSaid : Prop := breaksLocalRow.holds Tryd.pinned (OpenSpec.ofChange breaksLocalSpec)

/-- ITS FALSE NEIGHBOUR: 'it returns false'. Refute it at one input. -/
def breaksLocalWrong : ChangeSpec := { name := "breaksLocal", fn := fun _ => fun
  | [d1, d2] => { results := [.lit (.bool false)], args := [d1, d2] }
  | _ => none }
def BreaksLocalWrongFalsely : Prop := breaksLocalRow.holds Tryd.pinned (OpenSpec.ofChange breaksLocalWrong)

/-- 'shuttlelaw13.BreaksWhole': WHATEVER THE INPUT: true; the input reads as it did. -/
def breaksWholeSpec : ChangeSpec := { name := "breaksWhole", fn := fun _ => fun
  | [d] => { results := [.lit (.bool true)], args := [d] }
  | _ => none }
def breaksWholeRow : OpenClaim := { program := "ythkapcnhfdpdbaadoor", sum := "07a22d1a19b2f096589c2d725cb24388350ed431194c5cb618d2f4624d226230", func := "shuttle/shuttlelaw13.BreaksWhole", spec := "breaksWhole", unfollowed := true, recurses := true, named := ["unicode/utf8.first", "unicode/utf8.acceptRanges"], apart := false, laid := [("unicode/utf8.acceptRanges", laid_unicode_utf8_acceptRanges), ("unicode/utf8.first", laid_unicode_utf8_first)] }
def BreaksWholeSaid : Prop := breaksWholeRow.holds Tryd.pinned (OpenSpec.ofChange breaksWholeSpec)

/-- ITS FALSE NEIGHBOUR: 'it returns false'. Refute it at one input. -/
def breaksWholeWrong : ChangeSpec := { name := "breaksWhole", fn := fun _ => fun
  | [d] => { results := [.lit (.bool false)], args := [d] }
  | _ => none }
def BreaksWholeWrongFalsely : Prop := breaksWholeRow.holds Tryd.pinned (OpenSpec.ofChange breaksWholeWrong)

/- THE SECOND FORM. 'bulk': how many values and letters a reading holds, each counted each time it is reached (what is shared counts as often as it is met; a slice's spare places count too). A statement '..UptoSaid' is the law's where the arguments, and the package variables that the reading takes, are together of bulk at most 1048576: NARROWER than '..Said'. Prove '..Said' where nothing that the law and all that it calls make is longer than what came in: it says more and counts as full. Else prove '..UptoSaid'. A law counts once. -/
mutual
def uptoBulk {H : Type} : DataW H → Nat
  | .lit (.string bytes) => bytes.length + 1
  | .lit _ => 1
  | .nil => 1
  | .ptr d => uptoBulk d + 1
  | .slice elems spare => uptoBulkAll elems + uptoBulkAll spare + 1
  | .agg parts => uptoBulkAll parts + 1
  | .iface _ d => uptoBulk d + 1
  | .map entries => uptoBulkEntries entries + 1
  | .held _ => 1
def uptoBulkAll {H : Type} : List (DataW H) → Nat
  | [] => 0
  | d :: r => uptoBulk d + uptoBulkAll r
def uptoBulkEntries {H : Type} : List (Lit × DataW H) → Nat
  | [] => 0
  | x :: r => uptoBulkEntry x + uptoBulkEntries r
def uptoBulkEntry {H : Type} : Lit × DataW H → Nat
  | (.string bytes, d) => bytes.length + uptoBulk d + 1
  | (_, d) => uptoBulk d + 1
 end
def uptoSmall : (H : Type) → List (DataW H) → Bool := fun _ ds => decide (uptoBulkAll ds ≤ 1048576)
def OpenSpec.upto (s : _root_.Go.ChangeSpec) : _root_.Go.OpenSpec := { _root_.Go.OpenSpec.ofChange s with cond := some uptoSmall }

/-- 'shuttlelaw13.BreaksWhere', WHERE WHAT IT READS IS OF BULK AT MOST 1048576: true; the input reads as it did. -/
def breaksWhereUptoRow : OpenClaim := { program := "ythkapcnhfdpdbaadoor", sum := "07a22d1a19b2f096589c2d725cb24388350ed431194c5cb618d2f4624d226230", func := "shuttle/shuttlelaw13.BreaksWhere", spec := "breaksWhere", unfollowed := true, recurses := true, named := ["unicode/utf8.first", "unicode/utf8.acceptRanges"], apart := false, laid := [("unicode/utf8.acceptRanges", laid_unicode_utf8_acceptRanges), ("unicode/utf8.first", laid_unicode_utf8_first)], narrowed := true }
def BreaksWhereUptoSaid : Prop := breaksWhereUptoRow.holds Tryd.pinned (OpenSpec.upto breaksWhereSpec)

/-- 'shuttlelaw13.BreaksLines', WHERE WHAT IT READS IS OF BULK AT MOST 1048576: true; the input reads as it did. -/
def breaksLinesUptoRow : OpenClaim := { program := "ythkapcnhfdpdbaadoor", sum := "07a22d1a19b2f096589c2d725cb24388350ed431194c5cb618d2f4624d226230", func := "shuttle/shuttlelaw13.BreaksLines", spec := "breaksLines", unfollowed := true, recurses := true, named := ["unicode/utf8.first", "unicode/utf8.acceptRanges"], apart := false, laid := [("unicode/utf8.acceptRanges", laid_unicode_utf8_acceptRanges), ("unicode/utf8.first", laid_unicode_utf8_first)], narrowed := true }
def BreaksLinesUptoSaid : Prop := breaksLinesUptoRow.holds Tryd.pinned (OpenSpec.upto breaksLinesSpec)

/-- 'shuttlelaw13.BreaksLocal', WHERE WHAT IT READS IS OF BULK AT MOST 1048576: true; the input reads as it did. -/
def breaksLocalUptoRow : OpenClaim := { program := "ythkapcnhfdpdbaadoor", sum := "07a22d1a19b2f096589c2d725cb24388350ed431194c5cb618d2f4624d226230", func := "shuttle/shuttlelaw13.BreaksLocal", spec := "breaksLocal", unfollowed := true, recurses := true, named := ["unicode/utf8.first", "unicode/utf8.acceptRanges"], apart := false, laid := [("unicode/utf8.acceptRanges", laid_unicode_utf8_acceptRanges), ("unicode/utf8.first", laid_unicode_utf8_first)], narrowed := true }
def BreaksLocalUptoSaid : Prop := breaksLocalUptoRow.holds Tryd.pinned (OpenSpec.upto breaksLocalSpec)

/-- 'shuttlelaw13.BreaksWhole', WHERE WHAT IT READS IS OF BULK AT MOST 1048576: true; the input reads as it did. -/
def breaksWholeUptoRow : OpenClaim := { program := "ythkapcnhfdpdbaadoor", sum := "07a22d1a19b2f096589c2d725cb24388350ed431194c5cb618d2f4624d226230", func := "shuttle/shuttlelaw13.BreaksWhole", spec := "breaksWhole", unfollowed := true, recurses := true, named := ["unicode/utf8.first", "unicode/utf8.acceptRanges"], apart := false, laid := [("unicode/utf8.acceptRanges", laid_unicode_utf8_acceptRanges), ("unicode/utf8.first", laid_unicode_utf8_first)], narrowed := true }
def BreaksWholeUptoSaid : Prop := breaksWholeUptoRow.holds Tryd.pinned (OpenSpec.upto breaksWholeSpec)

end Rows
end Go.Proofs.YthkapcnhfdpdbaaDoor
