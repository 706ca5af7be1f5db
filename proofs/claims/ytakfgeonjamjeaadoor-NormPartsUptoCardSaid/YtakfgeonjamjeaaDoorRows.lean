/-
  NARROWER THAN 'FOR EVERY INPUT', by the rows' own cells (each row's printed sentence says how): NormLetters: laid · NormOrder: laid · NormForms: laid · NormSame: laid · NormEach: laid · NormOnce: laid · NormAlike: laid · NormParts: laid · NormPairs: laid.
  DERIVED. THE GIVEN ROWS OF THIS SEAT. 9 by the template 'for every input the law returns true; each argument reads behind the call as it read before'; 0 by the template 'total and deterministic' (their statements: YtakfgeonjamjeaaDoorTotals.lean).
  GIVEN WITH THE SEED: the statements are not yours to turn. If you find one false, say at which input.
  Laid BY PROGRAM, IN A SANDBOX (cutbox-rows.mjs): the forced cells as the released guide's own fill.sh prints them over the translation ae93ee7efb2623f8… (all of the seat's roots in one cut). By AI agents, Wed Nov 11 2026. No macro, syntax, notation, axiom, sorry.
-/
import Derived.Test.YtakfgeonjamjeaaDoorChecked
import GoSem.PinnedTables
import GoSem.Claim
import GoSem.ClaimJoined
import GoSem.ClaimMapViews
import Derived.JoinedTies
import Derived.KernelRfl
namespace Go.Proofs.YtakfgeonjamjeaaDoor
/- THE CELL 'sum', in the pinned program and in every row, IS THE sha256 OF THE DUMP (.gsa) THAT YtakfgeonjamjeaaDoorProg.lean LOADS. Nothing in Lean hashes anything: it is a label: what it is worth is what the hold of that sum in a sandbox is worth. -/
noncomputable def Tryd.pinned : Pinned := { name := "ytakfgeonjamjeaadoor", sum := "ae93ee7efb2623f821ecc4be727628277097765a21d9083d36225a431f23b962", checked := Tryd.checked }
namespace Rows
def none {H : Type} : Left H := { results := [], args := [] }

/- WHAT THE LISTED PACKAGE-LEVEL VARIABLES READ AS WHEN THE CALL BEGINS. Each datum BY PROGRAM (the guide's laid-datum.mjs) off the statement by which the dump's own 'gosem.cut.vars' lays the variable. In a bare row this is a premise. The card (YtakfgeonjamjeaaDoorCards.lean) ties it to the program's text. -/
def laid_unicode_utf8_acceptRanges {H : Type} : DataW H := .agg [.agg [.lit (.int .u8 128), .lit (.int .u8 191)], .agg [.lit (.int .u8 160), .lit (.int .u8 191)], .agg [.lit (.int .u8 128), .lit (.int .u8 159)], .agg [.lit (.int .u8 144), .lit (.int .u8 191)], .agg [.lit (.int .u8 128), .lit (.int .u8 143)], .agg [.lit (.int .u8 0), .lit (.int .u8 0)], .agg [.lit (.int .u8 0), .lit (.int .u8 0)], .agg [.lit (.int .u8 0), .lit (.int .u8 0)], .agg [.lit (.int .u8 0), .lit (.int .u8 0)], .agg [.lit (.int .u8 0), .lit (.int .u8 0)], .agg [.lit (.int .u8 0), .lit (.int .u8 0)], .agg [.lit (.int .u8 0), .lit (.int .u8 0)], .agg [.lit (.int .u8 0), .lit (.int .u8 0)], .agg [.lit (.int .u8 0), .lit (.int .u8 0)], .agg [.lit (.int .u8 0), .lit (.int .u8 0)], .agg [.lit (.int .u8 0), .lit (.int .u8 0)]]
/-- One of Go's own tables, pinned by name: the form's constant. -/
def laid_unicode_utf8_first : DataW Unit := Go.Pinned.utf8First

/-- 'shuttlelaw04.NormLetters': WHATEVER THE INPUT: true; the input reads as it did. -/
def normLettersSpec : ChangeSpec := { name := "normLetters", fn := fun _ => fun
  | [d1, d2] => { results := [.lit (.bool true)], args := [d1, d2] }
  | _ => none }
def normLettersRow : OpenClaim := { program := "ytakfgeonjamjeaadoor", sum := "ae93ee7efb2623f821ecc4be727628277097765a21d9083d36225a431f23b962", func := "shuttle/shuttlelaw04.NormLetters", spec := "normLetters", inPlace := ["internal/abi.NoEscape"], unfollowed := true, recurses := true, named := ["unicode/utf8.first", "unicode/utf8.acceptRanges"], plainKeys := false, apart := false, laid := [("unicode/utf8.acceptRanges", laid_unicode_utf8_acceptRanges), ("unicode/utf8.first", laid_unicode_utf8_first)] }
def NormLettersSaid : Prop := normLettersRow.holds Tryd.pinned (OpenSpec.ofChange normLettersSpec)

/-- ITS FALSE NEIGHBOUR: 'it returns false'. Refute it at one input. -/
def normLettersWrong : ChangeSpec := { name := "normLetters", fn := fun _ => fun
  | [d1, d2] => { results := [.lit (.bool false)], args := [d1, d2] }
  | _ => none }
def NormLettersWrongFalsely : Prop := normLettersRow.holds Tryd.pinned (OpenSpec.ofChange normLettersWrong)

/-- 'shuttlelaw04.NormOrder': WHATEVER THE INPUT: true; the input reads as it did. -/
def normOrderSpec : ChangeSpec := { name := "normOrder", fn := fun _ => fun
  | [d] => { results := [.lit (.bool true)], args := [d] }
  | _ => none }
def normOrderRow : OpenClaim := { program := "ytakfgeonjamjeaadoor", sum := "ae93ee7efb2623f821ecc4be727628277097765a21d9083d36225a431f23b962", func := "shuttle/shuttlelaw04.NormOrder", spec := "normOrder", inPlace := ["internal/abi.NoEscape"], unfollowed := true, recurses := true, named := ["unicode/utf8.first", "unicode/utf8.acceptRanges"], plainKeys := false, apart := false, laid := [("unicode/utf8.acceptRanges", laid_unicode_utf8_acceptRanges), ("unicode/utf8.first", laid_unicode_utf8_first)] }
def NormOrderSaid : Prop := normOrderRow.holds Tryd.pinned (OpenSpec.ofChange normOrderSpec)

/-- ITS FALSE NEIGHBOUR: 'it returns false'. Refute it at one input. -/
def normOrderWrong : ChangeSpec := { name := "normOrder", fn := fun _ => fun
  | [d] => { results := [.lit (.bool false)], args := [d] }
  | _ => none }
def NormOrderWrongFalsely : Prop := normOrderRow.holds Tryd.pinned (OpenSpec.ofChange normOrderWrong)

/-- 'shuttlelaw04.NormForms': WHATEVER THE INPUT: true; the input reads as it did. -/
def normFormsSpec : ChangeSpec := { name := "normForms", fn := fun _ => fun
  | [d] => { results := [.lit (.bool true)], args := [d] }
  | _ => none }
def normFormsRow : OpenClaim := { program := "ytakfgeonjamjeaadoor", sum := "ae93ee7efb2623f821ecc4be727628277097765a21d9083d36225a431f23b962", func := "shuttle/shuttlelaw04.NormForms", spec := "normForms", inPlace := ["internal/abi.NoEscape"], unfollowed := true, recurses := true, named := ["unicode/utf8.first", "unicode/utf8.acceptRanges"], plainKeys := false, apart := false, laid := [("unicode/utf8.acceptRanges", laid_unicode_utf8_acceptRanges), ("unicode/utf8.first", laid_unicode_utf8_first)] }
def NormFormsSaid : Prop := normFormsRow.holds Tryd.pinned (OpenSpec.ofChange normFormsSpec)

/-- ITS FALSE NEIGHBOUR: 'it returns false'. Refute it at one input. -/
def normFormsWrong : ChangeSpec := { name := "normForms", fn := fun _ => fun
  | [d] => { results := [.lit (.bool false)], args := [d] }
  | _ => none }
def NormFormsWrongFalsely : Prop := normFormsRow.holds Tryd.pinned (OpenSpec.ofChange normFormsWrong)

/-- 'shuttlelaw04.NormSame': WHATEVER THE INPUT: true; the input reads as it did. -/
def normSameSpec : ChangeSpec := { name := "normSame", fn := fun _ => fun
  | [d1, d2] => { results := [.lit (.bool true)], args := [d1, d2] }
  | _ => none }
def normSameRow : OpenClaim := { program := "ytakfgeonjamjeaadoor", sum := "ae93ee7efb2623f821ecc4be727628277097765a21d9083d36225a431f23b962", func := "shuttle/shuttlelaw04.NormSame", spec := "normSame", inPlace := ["internal/abi.NoEscape"], unfollowed := true, recurses := true, named := ["unicode/utf8.first", "unicode/utf8.acceptRanges"], plainKeys := false, apart := false, laid := [("unicode/utf8.acceptRanges", laid_unicode_utf8_acceptRanges), ("unicode/utf8.first", laid_unicode_utf8_first)] }
def NormSameSaid : Prop := normSameRow.holds Tryd.pinned (OpenSpec.ofChange normSameSpec)

/-- ITS FALSE NEIGHBOUR: 'it returns false'. Refute it at one input. -/
def normSameWrong : ChangeSpec := { name := "normSame", fn := fun _ => fun
  | [d1, d2] => { results := [.lit (.bool false)], args := [d1, d2] }
  | _ => none }
def NormSameWrongFalsely : Prop := normSameRow.holds Tryd.pinned (OpenSpec.ofChange normSameWrong)

/-- 'shuttlelaw04.NormEach': WHATEVER THE INPUT: true; the input reads as it did. -/
def normEachSpec : ChangeSpec := { name := "normEach", fn := fun _ => fun
  | [] => { results := [.lit (.bool true)], args := [] }
  | _ => none }
def normEachRow : OpenClaim := { program := "ytakfgeonjamjeaadoor", sum := "ae93ee7efb2623f821ecc4be727628277097765a21d9083d36225a431f23b962", func := "shuttle/shuttlelaw04.NormEach", spec := "normEach", inPlace := ["internal/abi.NoEscape"], unfollowed := true, recurses := true, named := ["unicode/utf8.first", "unicode/utf8.acceptRanges"], plainKeys := false, apart := false, laid := [("unicode/utf8.acceptRanges", laid_unicode_utf8_acceptRanges), ("unicode/utf8.first", laid_unicode_utf8_first)] }
def NormEachSaid : Prop := normEachRow.holds Tryd.pinned (OpenSpec.ofChange normEachSpec)

/-- ITS FALSE NEIGHBOUR: 'it returns false'. Refute it at one input. -/
def normEachWrong : ChangeSpec := { name := "normEach", fn := fun _ => fun
  | [] => { results := [.lit (.bool false)], args := [] }
  | _ => none }
def NormEachWrongFalsely : Prop := normEachRow.holds Tryd.pinned (OpenSpec.ofChange normEachWrong)

/-- 'shuttlelaw04.NormOnce': WHATEVER THE INPUT: true; the input reads as it did. -/
def normOnceSpec : ChangeSpec := { name := "normOnce", fn := fun _ => fun
  | [d] => { results := [.lit (.bool true)], args := [d] }
  | _ => none }
def normOnceRow : OpenClaim := { program := "ytakfgeonjamjeaadoor", sum := "ae93ee7efb2623f821ecc4be727628277097765a21d9083d36225a431f23b962", func := "shuttle/shuttlelaw04.NormOnce", spec := "normOnce", inPlace := ["internal/abi.NoEscape"], unfollowed := true, recurses := true, named := ["unicode/utf8.first", "unicode/utf8.acceptRanges"], plainKeys := false, apart := false, laid := [("unicode/utf8.acceptRanges", laid_unicode_utf8_acceptRanges), ("unicode/utf8.first", laid_unicode_utf8_first)] }
def NormOnceSaid : Prop := normOnceRow.holds Tryd.pinned (OpenSpec.ofChange normOnceSpec)

/-- ITS FALSE NEIGHBOUR: 'it returns false'. Refute it at one input. -/
def normOnceWrong : ChangeSpec := { name := "normOnce", fn := fun _ => fun
  | [d] => { results := [.lit (.bool false)], args := [d] }
  | _ => none }
def NormOnceWrongFalsely : Prop := normOnceRow.holds Tryd.pinned (OpenSpec.ofChange normOnceWrong)

/-- 'shuttlelaw04.NormAlike': WHATEVER THE INPUT: true; the input reads as it did. -/
def normAlikeSpec : ChangeSpec := { name := "normAlike", fn := fun _ => fun
  | [d1, d2, d3] => { results := [.lit (.bool true)], args := [d1, d2, d3] }
  | _ => none }
def normAlikeRow : OpenClaim := { program := "ytakfgeonjamjeaadoor", sum := "ae93ee7efb2623f821ecc4be727628277097765a21d9083d36225a431f23b962", func := "shuttle/shuttlelaw04.NormAlike", spec := "normAlike", inPlace := ["internal/abi.NoEscape"], unfollowed := true, recurses := true, named := ["unicode/utf8.first", "unicode/utf8.acceptRanges"], plainKeys := false, apart := false, laid := [("unicode/utf8.acceptRanges", laid_unicode_utf8_acceptRanges), ("unicode/utf8.first", laid_unicode_utf8_first)] }
def NormAlikeSaid : Prop := normAlikeRow.holds Tryd.pinned (OpenSpec.ofChange normAlikeSpec)

/-- ITS FALSE NEIGHBOUR: 'it returns false'. Refute it at one input. -/
def normAlikeWrong : ChangeSpec := { name := "normAlike", fn := fun _ => fun
  | [d1, d2, d3] => { results := [.lit (.bool false)], args := [d1, d2, d3] }
  | _ => none }
def NormAlikeWrongFalsely : Prop := normAlikeRow.holds Tryd.pinned (OpenSpec.ofChange normAlikeWrong)

/-- 'shuttlelaw04.NormParts': WHATEVER THE INPUT: true; the input reads as it did. -/
def normPartsSpec : ChangeSpec := { name := "normParts", fn := fun _ => fun
  | [d1, d2] => { results := [.lit (.bool true)], args := [d1, d2] }
  | _ => none }
def normPartsRow : OpenClaim := { program := "ytakfgeonjamjeaadoor", sum := "ae93ee7efb2623f821ecc4be727628277097765a21d9083d36225a431f23b962", func := "shuttle/shuttlelaw04.NormParts", spec := "normParts", inPlace := ["internal/abi.NoEscape"], unfollowed := true, recurses := true, named := ["unicode/utf8.first", "unicode/utf8.acceptRanges"], plainKeys := false, apart := false, laid := [("unicode/utf8.acceptRanges", laid_unicode_utf8_acceptRanges), ("unicode/utf8.first", laid_unicode_utf8_first)] }
def NormPartsSaid : Prop := normPartsRow.holds Tryd.pinned (OpenSpec.ofChange normPartsSpec)

/-- ITS FALSE NEIGHBOUR: 'it returns false'. Refute it at one input. -/
def normPartsWrong : ChangeSpec := { name := "normParts", fn := fun _ => fun
  | [d1, d2] => { results := [.lit (.bool false)], args := [d1, d2] }
  | _ => none }
def NormPartsWrongFalsely : Prop := normPartsRow.holds Tryd.pinned (OpenSpec.ofChange normPartsWrong)

/-- 'shuttlelaw04.NormPairs': WHATEVER THE INPUT: true; the input reads as it did. -/
def normPairsSpec : ChangeSpec := { name := "normPairs", fn := fun _ => fun
  | [d1, d2, d3] => { results := [.lit (.bool true)], args := [d1, d2, d3] }
  | _ => none }
def normPairsRow : OpenClaim := { program := "ytakfgeonjamjeaadoor", sum := "ae93ee7efb2623f821ecc4be727628277097765a21d9083d36225a431f23b962", func := "shuttle/shuttlelaw04.NormPairs", spec := "normPairs", inPlace := ["internal/abi.NoEscape"], unfollowed := true, recurses := true, named := ["unicode/utf8.first", "unicode/utf8.acceptRanges"], plainKeys := false, apart := false, laid := [("unicode/utf8.acceptRanges", laid_unicode_utf8_acceptRanges), ("unicode/utf8.first", laid_unicode_utf8_first)] }
def NormPairsSaid : Prop := normPairsRow.holds Tryd.pinned (OpenSpec.ofChange normPairsSpec)

/-- ITS FALSE NEIGHBOUR: 'it returns false'. Refute it at one input. -/
def normPairsWrong : ChangeSpec := { name := "normPairs", fn := fun _ => fun
  | [d1, d2, d3] => { results := [.lit (.bool false)], args := [d1, d2, d3] }
  | _ => none }
def NormPairsWrongFalsely : Prop := normPairsRow.holds Tryd.pinned (OpenSpec.ofChange normPairsWrong)

/- THE SECOND FORM. 'bulk': how many values and letters a reading holds, each counted each time it is reached (what is shared counts as often as it is met; a slice's spare places count too). A statement '..UptoSaid' is the law's where the arguments, and the package variables that the reading takes, are together of bulk at most 1048576: NARROWER than '..Said'. Prove '..Said' where nothing that the law and all that it calls make is longer than what came in: it says more and counts as full. Else prove '..UptoSaid'. A law counts once. -/
mutual
def uptoBulk {H : Type} : DataW H → Nat
  | .lit (.string bytes) => bytes.length + 1
  | .lit _ => 1
  | .nil => 1
  | .ptr d => uptoBulk d + 1
  | .slice elems spare => uptoBulkAll elems + uptoBulkAll spare + 1
  | .agg parts => uptoBulkAll parts + 1
  | .iface _ d => uptoBulk d + 1
  | .map entries => uptoBulkEntries entries + 1
  | .held _ => 1
def uptoBulkAll {H : Type} : List (DataW H) → Nat
  | [] => 0
  | d :: r => uptoBulk d + uptoBulkAll r
def uptoBulkEntries {H : Type} : List (Lit × DataW H) → Nat
  | [] => 0
  | x :: r => uptoBulkEntry x + uptoBulkEntries r
def uptoBulkEntry {H : Type} : Lit × DataW H → Nat
  | (.string bytes, d) => bytes.length + uptoBulk d + 1
  | (_, d) => uptoBulk d + 1
 end
def uptoSmall : (H : Type) → List (DataW H) → Bool := fun _ ds => decide (uptoBulkAll ds ≤ 1048576)
def OpenSpec.upto (s : _root_.Go.ChangeSpec) : _root_.Go.OpenSpec := { _root_.Go.OpenSpec.ofChange s with cond := some uptoSmall }

/-- 'shuttlelaw04.NormLetters', WHERE WHAT IT READS IS OF BULK AT MOST 1048576: true; the input reads as it did. -/
def normLettersUptoRow : OpenClaim := { program := "ytakfgeonjamjeaadoor", sum := "ae93ee7efb2623f821ecc4be727628277097765a21d9083d36225a431f23b962", func := "shuttle/shuttlelaw04.NormLetters", spec := "normLetters", inPlace := ["internal/abi.NoEscape"], unfollowed := true, recurses := true, named := ["unicode/utf8.first", "unicode/utf8.acceptRanges"], plainKeys := false, apart := false, laid := [("unicode/utf8.acceptRanges", laid_unicode_utf8_acceptRanges), ("unicode/utf8.first", laid_unicode_utf8_first)], narrowed := true }
def NormLettersUptoSaid : Prop := normLettersUptoRow.holds Tryd.pinned (OpenSpec.upto normLettersSpec)

/-- 'shuttlelaw04.NormOrder', WHERE WHAT IT READS IS OF BULK AT MOST 1048576: true; the input reads as it did. -/
def normOrderUptoRow : OpenClaim := { program := "ytakfgeonjamjeaadoor", sum := "ae93ee7efb2623f821ecc4be727628277097765a21d9083d36225a431f23b962", func := "shuttle/shuttlelaw04.NormOrder", spec := "normOrder", inPlace := ["internal/abi.NoEscape"], unfollowed := true, recurses := true, named := ["unicode/utf8.first", "unicode/utf8.acceptRanges"], plainKeys := false, apart := false, laid := [("unicode/utf8.acceptRanges", laid_unicode_utf8_acceptRanges), ("unicode/utf8.first", laid_unicode_utf8_first)], narrowed := true }
def NormOrderUptoSaid : Prop := normOrderUptoRow.holds Tryd.pinned (OpenSpec.upto normOrderSpec)

/-- 'shuttlelaw04.NormForms', WHERE WHAT IT READS IS OF BULK AT MOST 1048576: true; the input reads as it did. -/
def normFormsUptoRow : OpenClaim := { program := "ytakfgeonjamjeaadoor", sum := "ae93ee7efb2623f821ecc4be727628277097765a21d9083d36225a431f23b962", func := "shuttle/shuttlelaw04.NormForms", spec := "normForms", inPlace := ["internal/abi.NoEscape"], unfollowed := true, recurses := true, named := ["unicode/utf8.first", "unicode/utf8.acceptRanges"], plainKeys := false, apart := false, laid := [("unicode/utf8.acceptRanges", laid_unicode_utf8_acceptRanges), ("unicode/utf8.first", laid_unicode_utf8_first)], narrowed := true }
def NormFormsUptoSaid : Prop := normFormsUptoRow.holds Tryd.pinned (OpenSpec.upto normFormsSpec)

/-- 'shuttlelaw04.NormSame', WHERE WHAT IT READS IS OF BULK AT MOST 1048576: true; the input reads as it did. -/
def normSameUptoRow : OpenClaim := { program := "ytakfgeonjamjeaadoor", sum := "ae93ee7efb2623f821ecc4be727628277097765a21d9083d36225a431f23b962", func := "shuttle/shuttlelaw04.NormSame", spec := "normSame", inPlace := ["internal/abi.NoEscape"], unfollowed := true, recurses := true, named := ["unicode/utf8.first", "unicode/utf8.acceptRanges"], plainKeys := false, apart := false, laid := [("unicode/utf8.acceptRanges", laid_unicode_utf8_acceptRanges), ("unicode/utf8.first", laid_unicode_utf8_first)], narrowed := true }
def NormSameUptoSaid : Prop := normSameUptoRow.holds Tryd.pinned (OpenSpec.upto normSameSpec)

/-- 'shuttlelaw04.NormEach', WHERE WHAT IT READS IS OF BULK AT MOST 1048576: true; the input reads as it did. -/
def normEachUptoRow : OpenClaim := { program := "ytakfgeonjamjeaadoor", sum := "ae93ee7efb2623f821ecc4be727628277097765a21d9083d36225a431f23b962", func := "shuttle/shuttlelaw04.NormEach", spec := "normEach", inPlace := ["internal/abi.NoEscape"], unfollowed := true, recurses := true, named := ["unicode/utf8.first", "unicode/utf8.acceptRanges"], plainKeys := false, apart := false, laid := [("unicode/utf8.acceptRanges", laid_unicode_utf8_acceptRanges), ("unicode/utf8.first", laid_unicode_utf8_first)], narrowed := true }
def NormEachUptoSaid : Prop := normEachUptoRow.holds Tryd.pinned (OpenSpec.upto normEachSpec)

/-- 'shuttlelaw04.NormOnce', WHERE WHAT IT READS IS OF BULK AT MOST 1048576: true; the input reads as it did. -/
def normOnceUptoRow : OpenClaim := { program := "ytakfgeonjamjeaadoor", sum := "ae93ee7efb2623f821ecc4be727628277097765a21d9083d36225a431f23b962", func := "shuttle/shuttlelaw04.NormOnce", spec := "normOnce", inPlace := ["internal/abi.NoEscape"], unfollowed := true, recurses := true, named := ["unicode/utf8.first", "unicode/utf8.acceptRanges"], plainKeys := false, apart := false, laid := [("unicode/utf8.acceptRanges", laid_unicode_utf8_acceptRanges), ("unicode/utf8.first", laid_unicode_utf8_first)], narrowed := true }
def NormOnceUptoSaid : Prop := normOnceUptoRow.holds Tryd.pinned (OpenSpec.upto normOnceSpec)

/-- 'shuttlelaw04.NormAlike', WHERE WHAT IT READS IS OF BULK AT MOST 1048576: true; the input reads as it did. -/
def normAlikeUptoRow : OpenClaim := { program := "ytakfgeonjamjeaadoor", sum := "ae93ee7efb2623f821ecc4be727628277097765a21d9083d36225a431f23b962", func := "shuttle/shuttlelaw04.NormAlike", spec := "normAlike", inPlace := ["internal/abi.NoEscape"], unfollowed := true, recurses := true, named := ["unicode/utf8.first", "unicode/utf8.acceptRanges"], plainKeys := false, apart := false, laid := [("unicode/utf8.acceptRanges", laid_unicode_utf8_acceptRanges), ("unicode/utf8.first", laid_unicode_utf8_first)], narrowed := true }
def NormAlikeUptoSaid : Prop := normAlikeUptoRow.holds Tryd.pinned (OpenSpec.upto normAlikeSpec)

/-- 'shuttlelaw04.NormParts', WHERE WHAT IT READS IS OF BULK AT MOST 1048576: true; the input reads as it did. -/
def normPartsUptoRow : OpenClaim := { program := "ytakfgeonjamjeaadoor", sum := "ae93ee7efb2623f821ecc4be727628277097765a21d9083d36225a431f23b962", func := "shuttle/shuttlelaw04.NormParts", spec := "normParts", inPlace := ["internal/abi.NoEscape"], unfollowed := true, recurses := true, named := ["unicode/utf8.first", "unicode/utf8.acceptRanges"], plainKeys := false, apart := false, laid := [("unicode/utf8.acceptRanges", laid_unicode_utf8_acceptRanges), ("unicode/utf8.first", laid_unicode_utf8_first)], narrowed := true }
def NormPartsUptoSaid : Prop := normPartsUptoRow.holds Tryd.pinned (OpenSpec.upto normPartsSpec)

/-- 'shuttlelaw04.NormPairs', WHERE WHAT IT READS IS OF BULK AT MOST 1048576: true; the input reads as it did. -/
def normPairsUptoRow : OpenClaim := { program := "ytakfgeonjamjeaadoor", sum := "ae93ee7efb2623f821ecc4be727628277097765a21d9083d36225a431f23b962", func := "shuttle/shuttlelaw04.NormPairs", spec := "normPairs", inPlace := ["internal/abi.NoEscape"], unfollowed := true, recurses := true, named := ["unicode/utf8.first", "unicode/utf8.acceptRanges"], plainKeys := false, apart := false, laid := [("unicode/utf8.acceptRanges", laid_unicode_utf8_acceptRanges), ("unicode/utf8.first", laid_unicode_utf8_first)], narrowed := true }
def NormPairsUptoSaid : Prop := normPairsUptoRow.holds Tryd.pinned (OpenSpec.upto normPairsSpec)

end Rows
end Go.Proofs.YtakfgeonjamjeaaDoor
