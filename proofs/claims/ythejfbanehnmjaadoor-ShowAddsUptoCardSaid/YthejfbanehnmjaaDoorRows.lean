/-
  NARROWER THAN 'FOR EVERY INPUT', by the rows' own cells (each row's printed sentence says how): ShowText: laid · ShowWide: laid · ShowCut: laid · ShowPlain: laid · ShowAdds: laid · ShowBytes: laid · ShowKnown: laid.
  DERIVED. THE GIVEN ROWS OF THIS SEAT. 7 by the template 'for every input the law returns true; each argument reads behind the call as it read before'; 0 by the template 'total and deterministic' (their statements: YthejfbanehnmjaaDoorTotals.lean).
  GIVEN WITH THE SEED: the statements are not yours to turn. If you find one false, say at which input.
  Laid BY PROGRAM, IN A SANDBOX (cutbox-rows.mjs): the forced cells as the released guide's own fill.sh prints them over the translation 153630ef847073dd… (all of the seat's roots in one cut). By AI agents, Wed Nov 11 2026. No macro, syntax, notation, axiom, sorry.
-/
import Derived.Test.YthejfbanehnmjaaDoorChecked
import GoSem.PinnedTables
import GoSem.Claim
import GoSem.ClaimJoined
import GoSem.ClaimMapViews
import Derived.JoinedTies
import Derived.KernelRfl
namespace Go.Proofs.YthejfbanehnmjaaDoor
/- THE CELL 'sum', in the pinned program and in every row, IS THE sha256 OF THE DUMP (.gsa) THAT YthejfbanehnmjaaDoorProg.lean LOADS. Nothing in Lean hashes anything: it is a label: what it is worth is what the hold of that sum in a sandbox is worth. -/
noncomputable def Tryd.pinned : Pinned := { name := "ythejfbanehnmjaadoor", sum := "153630ef847073dd9ea6d5caa2d373ab91a90ef26035e8344143185b5fe0ca7a", checked := Tryd.checked }
namespace Rows
def none {H : Type} : Left H := { results := [], args := [] }

/- WHAT THE LISTED PACKAGE-LEVEL VARIABLES READ AS WHEN THE CALL BEGINS. Each datum BY PROGRAM (the guide's laid-datum.mjs) off the statement by which the dump's own 'gosem.cut.vars' lays the variable. In a bare row this is a premise. The card (YthejfbanehnmjaaDoorCards.lean) ties it to the program's text. -/
def laid_unicode_utf8_acceptRanges {H : Type} : DataW H := .agg [.agg [.lit (.int .u8 128), .lit (.int .u8 191)], .agg [.lit (.int .u8 160), .lit (.int .u8 191)], .agg [.lit (.int .u8 128), .lit (.int .u8 159)], .agg [.lit (.int .u8 144), .lit (.int .u8 191)], .agg [.lit (.int .u8 128), .lit (.int .u8 143)], .agg [.lit (.int .u8 0), .lit (.int .u8 0)], .agg [.lit (.int .u8 0), .lit (.int .u8 0)], .agg [.lit (.int .u8 0), .lit (.int .u8 0)], .agg [.lit (.int .u8 0), .lit (.int .u8 0)], .agg [.lit (.int .u8 0), .lit (.int .u8 0)], .agg [.lit (.int .u8 0), .lit (.int .u8 0)], .agg [.lit (.int .u8 0), .lit (.int .u8 0)], .agg [.lit (.int .u8 0), .lit (.int .u8 0)], .agg [.lit (.int .u8 0), .lit (.int .u8 0)], .agg [.lit (.int .u8 0), .lit (.int .u8 0)], .agg [.lit (.int .u8 0), .lit (.int .u8 0)]]
/-- One of Go's own tables, pinned by name: the form's constant. -/
def laid_unicode_utf8_first : DataW Unit := Go.Pinned.utf8First

/-- 'shuttlelaw06.ShowText': WHATEVER THE INPUT: true; the input reads as it did. -/
def showTextSpec : ChangeSpec := { name := "showText", fn := fun _ => fun
  | [d1, d2, d3] => { results := [.lit (.bool true)], args := [d1, d2, d3] }
  | _ => none }
def showTextRow : OpenClaim := { program := "ythejfbanehnmjaadoor", sum := "153630ef847073dd9ea6d5caa2d373ab91a90ef26035e8344143185b5fe0ca7a", func := "shuttle/shuttlelaw06.ShowText", spec := "showText", inPlace := ["internal/abi.NoEscape", "internal/bytealg.MakeNoZero"], unfollowed := true, recurses := true, named := ["unicode/utf8.first", "unicode/utf8.acceptRanges"], apart := false, laid := [("unicode/utf8.acceptRanges", laid_unicode_utf8_acceptRanges), ("unicode/utf8.first", laid_unicode_utf8_first)] }
def ShowTextSaid : Prop := showTextRow.holds Tryd.pinned (OpenSpec.ofChange showTextSpec)

/-- ITS FALSE NEIGHBOUR: 'it returns false'. Refute it at one input. -/
def showTextWrong : ChangeSpec := { name := "showText", fn := fun _ => fun
  | [d1, d2, d3] => { results := [.lit (.bool false)], args := [d1, d2, d3] }
  | _ => none }
def ShowTextWrongFalsely : Prop := showTextRow.holds Tryd.pinned (OpenSpec.ofChange showTextWrong)

/-- 'shuttlelaw06.ShowWide': WHATEVER THE INPUT: true; the input reads as it did. -/
def showWideSpec : ChangeSpec := { name := "showWide", fn := fun _ => fun
  | [d1, d2, d3] => { results := [.lit (.bool true)], args := [d1, d2, d3] }
  | _ => none }
def showWideRow : OpenClaim := { program := "ythejfbanehnmjaadoor", sum := "153630ef847073dd9ea6d5caa2d373ab91a90ef26035e8344143185b5fe0ca7a", func := "shuttle/shuttlelaw06.ShowWide", spec := "showWide", inPlace := ["internal/abi.NoEscape", "internal/bytealg.MakeNoZero"], unfollowed := true, recurses := true, named := ["unicode/utf8.first", "unicode/utf8.acceptRanges"], apart := false, laid := [("unicode/utf8.acceptRanges", laid_unicode_utf8_acceptRanges), ("unicode/utf8.first", laid_unicode_utf8_first)] }
def ShowWideSaid : Prop := showWideRow.holds Tryd.pinned (OpenSpec.ofChange showWideSpec)

/-- ITS FALSE NEIGHBOUR: 'it returns false'. Refute it at one input. -/
def showWideWrong : ChangeSpec := { name := "showWide", fn := fun _ => fun
  | [d1, d2, d3] => { results := [.lit (.bool false)], args := [d1, d2, d3] }
  | _ => none }
def ShowWideWrongFalsely : Prop := showWideRow.holds Tryd.pinned (OpenSpec.ofChange showWideWrong)

/-- 'shuttlelaw06.ShowCut': WHATEVER THE INPUT: true; the input reads as it did. -/
def showCutSpec : ChangeSpec := { name := "showCut", fn := fun _ => fun
  | [d1, d2, d3] => { results := [.lit (.bool true)], args := [d1, d2, d3] }
  | _ => none }
def showCutRow : OpenClaim := { program := "ythejfbanehnmjaadoor", sum := "153630ef847073dd9ea6d5caa2d373ab91a90ef26035e8344143185b5fe0ca7a", func := "shuttle/shuttlelaw06.ShowCut", spec := "showCut", inPlace := ["internal/abi.NoEscape", "internal/bytealg.MakeNoZero"], unfollowed := true, recurses := true, named := ["unicode/utf8.first", "unicode/utf8.acceptRanges"], apart := false, laid := [("unicode/utf8.acceptRanges", laid_unicode_utf8_acceptRanges), ("unicode/utf8.first", laid_unicode_utf8_first)] }
def ShowCutSaid : Prop := showCutRow.holds Tryd.pinned (OpenSpec.ofChange showCutSpec)

/-- ITS FALSE NEIGHBOUR: 'it returns false'. Refute it at one input. -/
def showCutWrong : ChangeSpec := { name := "showCut", fn := fun _ => fun
  | [d1, d2, d3] => { results := [.lit (.bool false)], args := [d1, d2, d3] }
  | _ => none }
def ShowCutWrongFalsely : Prop := showCutRow.holds Tryd.pinned (OpenSpec.ofChange showCutWrong)

/-- 'shuttlelaw06.ShowPlain': WHATEVER THE INPUT: true; the input reads as it did. -/
def showPlainSpec : ChangeSpec := { name := "showPlain", fn := fun _ => fun
  | [d] => { results := [.lit (.bool true)], args := [d] }
  | _ => none }
def showPlainRow : OpenClaim := { program := "ythejfbanehnmjaadoor", sum := "153630ef847073dd9ea6d5caa2d373ab91a90ef26035e8344143185b5fe0ca7a", func := "shuttle/shuttlelaw06.ShowPlain", spec := "showPlain", inPlace := ["internal/abi.NoEscape", "internal/bytealg.MakeNoZero"], unfollowed := true, recurses := true, named := ["unicode/utf8.first", "unicode/utf8.acceptRanges"], apart := false, laid := [("unicode/utf8.acceptRanges", laid_unicode_utf8_acceptRanges), ("unicode/utf8.first", laid_unicode_utf8_first)] }
def ShowPlainSaid : Prop := showPlainRow.holds Tryd.pinned (OpenSpec.ofChange showPlainSpec)

/-- ITS FALSE NEIGHBOUR: 'it returns false'. Refute it at one input. -/
def showPlainWrong : ChangeSpec := { name := "showPlain", fn := fun _ => fun
  | [d] => { results := [.lit (.bool false)], args := [d] }
  | _ => none }
def ShowPlainWrongFalsely : Prop := showPlainRow.holds Tryd.pinned (OpenSpec.ofChange showPlainWrong)

/-- 'shuttlelaw06.ShowAdds': WHATEVER THE INPUT: true; the input reads as it did. -/
def showAddsSpec : ChangeSpec := { name := "showAdds", fn := fun _ => fun
  | [d1, d2, d3, d4] => { results := [.lit (.bool true)], args := [d1, d2, d3, d4] }
  | _ => none }
def showAddsRow : OpenClaim := { program := "ythejfbanehnmjaadoor", sum := "153630ef847073dd9ea6d5caa2d373ab91a90ef26035e8344143185b5fe0ca7a", func := "shuttle/shuttlelaw06.ShowAdds", spec := "showAdds", inPlace := ["internal/abi.NoEscape", "internal/bytealg.MakeNoZero"], unfollowed := true, recurses := true, named := ["unicode/utf8.first", "unicode/utf8.acceptRanges"], apart := false, laid := [("unicode/utf8.acceptRanges", laid_unicode_utf8_acceptRanges), ("unicode/utf8.first", laid_unicode_utf8_first)] }
def ShowAddsSaid : Prop := showAddsRow.holds Tryd.pinned (OpenSpec.ofChange showAddsSpec)

/-- ITS FALSE NEIGHBOUR: 'it returns false'. Refute it at one input. -/
def showAddsWrong : ChangeSpec := { name := "showAdds", fn := fun _ => fun
  | [d1, d2, d3, d4] => { results := [.lit (.bool false)], args := [d1, d2, d3, d4] }
  | _ => none }
def ShowAddsWrongFalsely : Prop := showAddsRow.holds Tryd.pinned (OpenSpec.ofChange showAddsWrong)

/-- 'shuttlelaw06.ShowBytes': WHATEVER THE INPUT: true; the input reads as it did. -/
def showBytesSpec : ChangeSpec := { name := "showBytes", fn := fun _ => fun
  | [d1, d2, d3] => { results := [.lit (.bool true)], args := [d1, d2, d3] }
  | _ => none }
def showBytesRow : OpenClaim := { program := "ythejfbanehnmjaadoor", sum := "153630ef847073dd9ea6d5caa2d373ab91a90ef26035e8344143185b5fe0ca7a", func := "shuttle/shuttlelaw06.ShowBytes", spec := "showBytes", inPlace := ["internal/abi.NoEscape", "internal/bytealg.MakeNoZero"], unfollowed := true, recurses := true, named := ["unicode/utf8.first", "unicode/utf8.acceptRanges"], apart := false, laid := [("unicode/utf8.acceptRanges", laid_unicode_utf8_acceptRanges), ("unicode/utf8.first", laid_unicode_utf8_first)] }
def ShowBytesSaid : Prop := showBytesRow.holds Tryd.pinned (OpenSpec.ofChange showBytesSpec)

/-- ITS FALSE NEIGHBOUR: 'it returns false'. Refute it at one input. -/
def showBytesWrong : ChangeSpec := { name := "showBytes", fn := fun _ => fun
  | [d1, d2, d3] => { results := [.lit (.bool false)], args := [d1, d2, d3] }
  | _ => none }
def ShowBytesWrongFalsely : Prop := showBytesRow.holds Tryd.pinned (OpenSpec.ofChange showBytesWrong)

/-- 'shuttlelaw06.ShowKnown': WHATEVER THE INPUT: true; the input reads as it did. -/
def showKnownSpec : ChangeSpec := { name := "showKnown", fn := fun _ => fun
  | [] => { results := [.lit (.bool true)], args := [] }
  | _ => none }
def showKnownRow : OpenClaim := { program := "ythejfbanehnmjaadoor", sum := "153630ef847073dd9ea6d5caa2d373ab91a90ef26035e8344143185b5fe0ca7a", func := "shuttle/shuttlelaw06.ShowKnown", spec := "showKnown", inPlace := ["internal/abi.NoEscape", "internal/bytealg.MakeNoZero"], unfollowed := true, recurses := true, named := ["unicode/utf8.first", "unicode/utf8.acceptRanges"], apart := false, laid := [("unicode/utf8.acceptRanges", laid_unicode_utf8_acceptRanges), ("unicode/utf8.first", laid_unicode_utf8_first)] }
def ShowKnownSaid : Prop := showKnownRow.holds Tryd.pinned (OpenSpec.ofChange showKnownSpec)

/-- ITS FALSE NEIGHBOUR: 'it returns false'. Refute it at one input. -/
def showKnownWrong : ChangeSpec := { name := "showKnown", fn := fun _ => fun
  | [] => { results := [.lit (.bool false)], args := [] }
  | _ => none }
def ShowKnownWrongFalsely : Prop := showKnownRow.holds Tryd.pinned (OpenSpec.ofChange showKnownWrong)

/- THE SECOND FORM. 'bulk': how many values and letters a reading holds, each counted each time it is reached (what is shared counts as often as it is met; a slice's spare places count too). A statement '..UptoSaid' is the law's where the arguments, and the package variables that the reading takes, are together of bulk at most 1048576: NARROWER than '..Said'. Prove '..Said' where nothing that the law and all that it calls make is longer than what came in: it says more and counts as full. Else prove '..UptoSaid'. A law counts once. -/
mutual
def uptoBulk {H : Type} : DataW H → Nat
  | .lit (.string bytes) => bytes.length + 1
  | .lit _ => 1
  | .nil => 1
  | .ptr d => uptoBulk d + 1
  | .slice elems spare => uptoBulkAll elems + uptoBulkAll spare + 1
  | .agg parts => uptoBulkAll parts + 1
  | .iface _ d => uptoBulk d + 1
  | .map entries => uptoBulkEntries entries + 1
  | .held _ => 1
def uptoBulkAll {H : Type} : List (DataW H) → Nat
  | [] => 0
  | d :: r => uptoBulk d + uptoBulkAll r
def uptoBulkEntries {H : Type} : List (Lit × DataW H) → Nat
  | [] => 0
  | x :: r => uptoBulkEntry x + uptoBulkEntries r
def uptoBulkEntry {H : Type} : Lit × DataW H → Nat
  | (.string bytes, d) => bytes.length + uptoBulk d + 1
  | (_, d) => uptoBulk d + 1
 end
def uptoSmall : (H : Type) → List (DataW H) → Bool := fun _ ds => decide (uptoBulkAll ds ≤ 1048576)
def OpenSpec.upto (s : _root_.Go.ChangeSpec) : _root_.Go.OpenSpec := { _root_.Go.OpenSpec.ofChange s with cond := some uptoSmall }

/-- 'shuttlelaw06.ShowText', WHERE WHAT IT READS IS OF BULK AT MOST 1048576: true; the input reads as it did. -/
def showTextUptoRow : OpenClaim := { program := "ythejfbanehnmjaadoor", sum := "153630ef847073dd9ea6d5caa2d373ab91a90ef26035e8344143185b5fe0ca7a", func := "shuttle/shuttlelaw06.ShowText", spec := "showText", inPlace := ["internal/abi.NoEscape", "internal/bytealg.MakeNoZero"], unfollowed := true, recurses := true, named := ["unicode/utf8.first", "unicode/utf8.acceptRanges"], apart := false, laid := [("unicode/utf8.acceptRanges", laid_unicode_utf8_acceptRanges), ("unicode/utf8.first", laid_unicode_utf8_first)], narrowed := true }
def ShowTextUptoSaid : Prop := showTextUptoRow.holds Tryd.pinned (OpenSpec.upto showTextSpec)

/-- 'shuttlelaw06.ShowWide', WHERE WHAT IT READS IS OF BULK AT MOST 1048576: true; the input reads as it did. -/
def showWideUptoRow : OpenClaim := { program := "ythejfbanehnmjaadoor", sum := "153630ef847073dd9ea6d5caa2d373ab91a90ef26035e8344143185b5fe0ca7a", func := "shuttle/shuttlelaw06.ShowWide", spec := "showWide", inPlace := ["internal/abi.NoEscape", "internal/bytealg.MakeNoZero"], unfollowed := true, recurses := true, named := ["unicode/utf8.first", "unicode/utf8.acceptRanges"], apart := false, laid := [("unicode/utf8.acceptRanges", laid_unicode_utf8_acceptRanges), ("unicode/utf8.first", laid_unicode_utf8_first)], narrowed := true }
def ShowWideUptoSaid : Prop := showWideUptoRow.holds Tryd.pinned (OpenSpec.upto showWideSpec)

/-- 'shuttlelaw06.ShowCut', WHERE WHAT IT READS IS OF BULK AT MOST 1048576: true; the input reads as it did. -/
def showCutUptoRow : OpenClaim := { program := "ythejfbanehnmjaadoor", sum := "153630ef847073dd9ea6d5caa2d373ab91a90ef26035e8344143185b5fe0ca7a", func := "shuttle/shuttlelaw06.ShowCut", spec := "showCut", inPlace := ["internal/abi.NoEscape", "internal/bytealg.MakeNoZero"], unfollowed := true, recurses := true, named := ["unicode/utf8.first", "unicode/utf8.acceptRanges"], apart := false, laid := [("unicode/utf8.acceptRanges", laid_unicode_utf8_acceptRanges), ("unicode/utf8.first", laid_unicode_utf8_first)], narrowed := true }
def ShowCutUptoSaid : Prop := showCutUptoRow.holds Tryd.pinned (OpenSpec.upto showCutSpec)

/-- 'shuttlelaw06.ShowPlain', WHERE WHAT IT READS IS OF BULK AT MOST 1048576: true; the input reads as it did. -/
def showPlainUptoRow : OpenClaim := { program := "ythejfbanehnmjaadoor", sum := "153630ef847073dd9ea6d5caa2d373ab91a90ef26035e8344143185b5fe0ca7a", func := "shuttle/shuttlelaw06.ShowPlain", spec := "showPlain", inPlace := ["internal/abi.NoEscape", "internal/bytealg.MakeNoZero"], unfollowed := true, recurses := true, named := ["unicode/utf8.first", "unicode/utf8.acceptRanges"], apart := false, laid := [("unicode/utf8.acceptRanges", laid_unicode_utf8_acceptRanges), ("unicode/utf8.first", laid_unicode_utf8_first)], narrowed := true }
def ShowPlainUptoSaid : Prop := showPlainUptoRow.holds Tryd.pinned (OpenSpec.upto showPlainSpec)

/-- 'shuttlelaw06.ShowAdds', WHERE WHAT IT READS IS OF BULK AT MOST 1048576: true; the input reads as it did. -/
def showAddsUptoRow : OpenClaim := { program := "ythejfbanehnmjaadoor", sum := "153630ef847073dd9ea6d5caa2d373ab91a90ef26035e8344143185b5fe0ca7a", func := "shuttle/shuttlelaw06.ShowAdds", spec := "showAdds", inPlace := ["internal/abi.NoEscape", "internal/bytealg.MakeNoZero"], unfollowed := true, recurses := true, named := ["unicode/utf8.first", "unicode/utf8.acceptRanges"], apart := false, laid := [("unicode/utf8.acceptRanges", laid_unicode_utf8_acceptRanges), ("unicode/utf8.first", laid_unicode_utf8_first)], narrowed := true }
def ShowAddsUptoSaid : Prop := showAddsUptoRow.holds Tryd.pinned (OpenSpec.upto showAddsSpec)

/-- 'shuttlelaw06.ShowBytes', WHERE WHAT IT READS IS OF BULK AT MOST 1048576: true; the input reads as it did. -/
def showBytesUptoRow : OpenClaim := { program := "ythejfbanehnmjaadoor", sum := "153630ef847073dd9ea6d5caa2d373ab91a90ef26035e8344143185b5fe0ca7a", func := "shuttle/shuttlelaw06.ShowBytes", spec := "showBytes", inPlace := ["internal/abi.NoEscape", "internal/bytealg.MakeNoZero"], unfollowed := true, recurses := true, named := ["unicode/utf8.first", "unicode/utf8.acceptRanges"], apart := false, laid := [("unicode/utf8.acceptRanges", laid_unicode_utf8_acceptRanges), ("unicode/utf8.first", laid_unicode_utf8_first)], narrowed := true }
def ShowBytesUptoSaid : Prop := showBytesUptoRow.holds Tryd.pinned (OpenSpec.upto showBytesSpec)

/-- 'shuttlelaw06.ShowKnown', WHERE WHAT IT READS IS OF BULK AT MOST 1048576: true; the input reads as it did. -/
def showKnownUptoRow : OpenClaim := { program := "ythejfbanehnmjaadoor", sum := "153630ef847073dd9ea6d5caa2d373ab91a90ef26035e8344143185b5fe0ca7a", func := "shuttle/shuttlelaw06.ShowKnown", spec := "showKnown", inPlace := ["internal/abi.NoEscape", "internal/bytealg.MakeNoZero"], unfollowed := true, recurses := true, named := ["unicode/utf8.first", "unicode/utf8.acceptRanges"], apart := false, laid := [("unicode/utf8.acceptRanges", laid_unicode_utf8_acceptRanges), ("unicode/utf8.first", laid_unicode_utf8_first)], narrowed := true }
def ShowKnownUptoSaid : Prop := showKnownUptoRow.holds Tryd.pinned (OpenSpec.upto showKnownSpec)

end Rows
end Go.Proofs.YthejfbanehnmjaaDoor
