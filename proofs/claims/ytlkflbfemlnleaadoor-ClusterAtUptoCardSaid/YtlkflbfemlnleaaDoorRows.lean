/-
  NARROWER THAN 'FOR EVERY INPUT', by the rows' own cells (each row's printed sentence says how): ClusterAll: laid · ClusterAt: laid · ClusterCuts: laid · ClusterOnes: laid · ClusterParts: laid · ClusterKnown: laid.
  DERIVED. THE GIVEN ROWS OF THIS SEAT. 6 by the template 'for every input the law returns true; each argument reads behind the call as it read before'; 0 by the template 'total and deterministic' (their statements: YtlkflbfemlnleaaDoorTotals.lean).
  GIVEN WITH THE SEED: the statements are not yours to turn. If you find one false, say at which input.
  Laid BY PROGRAM, IN A SANDBOX (cutbox-rows.mjs): the forced cells as the released guide's own fill.sh prints them over the translation 632f910f9c0392e0… (all of the seat's roots in one cut). By AI agents, Wed Nov 11 2026. No macro, syntax, notation, axiom, sorry.
-/
import Derived.Test.YtlkflbfemlnleaaDoorChecked
import GoSem.PinnedTables
import GoSem.Claim
import GoSem.ClaimJoined
import GoSem.ClaimMapViews
import Derived.JoinedTies
import Derived.KernelRfl
namespace Go.Proofs.YtlkflbfemlnleaaDoor
/- THE CELL 'sum', in the pinned program and in every row, IS THE sha256 OF THE DUMP (.gsa) THAT YtlkflbfemlnleaaDoorProg.lean LOADS. Nothing in Lean hashes anything: it is a label: what it is worth is what the hold of that sum in a sandbox is worth. -/
noncomputable def Tryd.pinned : Pinned := { name := "ytlkflbfemlnleaadoor", sum := "632f910f9c0392e0b93ca9351617af0c83d0eeef00db7919b3bc141068cf9ddd", checked := Tryd.checked }
namespace Rows
def none {H : Type} : Left H := { results := [], args := [] }

/- WHAT THE LISTED PACKAGE-LEVEL VARIABLES READ AS WHEN THE CALL BEGINS. Each datum BY PROGRAM (the guide's laid-datum.mjs) off the statement by which the dump's own 'gosem.cut.vars' lays the variable. In a bare row this is a premise. The card (YtlkflbfemlnleaaDoorCards.lean) ties it to the program's text. -/
def laid_unicode_utf8_acceptRanges {H : Type} : DataW H := .agg [.agg [.lit (.int .u8 128), .lit (.int .u8 191)], .agg [.lit (.int .u8 160), .lit (.int .u8 191)], .agg [.lit (.int .u8 128), .lit (.int .u8 159)], .agg [.lit (.int .u8 144), .lit (.int .u8 191)], .agg [.lit (.int .u8 128), .lit (.int .u8 143)], .agg [.lit (.int .u8 0), .lit (.int .u8 0)], .agg [.lit (.int .u8 0), .lit (.int .u8 0)], .agg [.lit (.int .u8 0), .lit (.int .u8 0)], .agg [.lit (.int .u8 0), .lit (.int .u8 0)], .agg [.lit (.int .u8 0), .lit (.int .u8 0)], .agg [.lit (.int .u8 0), .lit (.int .u8 0)], .agg [.lit (.int .u8 0), .lit (.int .u8 0)], .agg [.lit (.int .u8 0), .lit (.int .u8 0)], .agg [.lit (.int .u8 0), .lit (.int .u8 0)], .agg [.lit (.int .u8 0), .lit (.int .u8 0)], .agg [.lit (.int .u8 0), .lit (.int .u8 0)]]
/-- One of Go's own tables, pinned by name: the form's constant. -/
def laid_unicode_utf8_first : DataW Unit := Go.Pinned.utf8First

/-- 'shuttlelaw03.ClusterAll': WHATEVER THE INPUT: true; the input reads as it did. -/
def clusterAllSpec : ChangeSpec := { name := "clusterAll", fn := fun _ => fun
  | [d1, d2] => { results := [.lit (.bool true)], args := [d1, d2] }
  | _ => none }
def clusterAllRow : OpenClaim := { program := "ytlkflbfemlnleaadoor", sum := "632f910f9c0392e0b93ca9351617af0c83d0eeef00db7919b3bc141068cf9ddd", func := "shuttle/shuttlelaw03.ClusterAll", spec := "clusterAll", unfollowed := true, recurses := true, named := ["unicode/utf8.first", "unicode/utf8.acceptRanges"], apart := false, laid := [("unicode/utf8.acceptRanges", laid_unicode_utf8_acceptRanges), ("unicode/utf8.first", laid_unicode_utf8_first)] }
def ClusterAllSaid : Prop := clusterAllRow.holds Tryd.pinned (OpenSpec.ofChange clusterAllSpec)

/-- ITS FALSE NEIGHBOUR: 'it returns false'. Refute it at one input. -/
def clusterAllWrong : ChangeSpec := { name := "clusterAll", fn := fun _ => fun
  | [d1, d2] => { results := [.lit (.bool false)], args := [d1, d2] }
  | _ => none }
def ClusterAllWrongFalsely : Prop := clusterAllRow.holds Tryd.pinned (OpenSpec.ofChange clusterAllWrong)

/-- 'shuttlelaw03.ClusterAt': WHATEVER THE INPUT: true; the input reads as it did. -/
def clusterAtSpec : ChangeSpec := { name := "clusterAt", fn := fun _ => fun
  | [d1, d2] => { results := [.lit (.bool true)], args := [d1, d2] }
  | _ => none }
def clusterAtRow : OpenClaim := { program := "ytlkflbfemlnleaadoor", sum := "632f910f9c0392e0b93ca9351617af0c83d0eeef00db7919b3bc141068cf9ddd", func := "shuttle/shuttlelaw03.ClusterAt", spec := "clusterAt", unfollowed := true, recurses := true, named := ["unicode/utf8.first", "unicode/utf8.acceptRanges"], apart := false, laid := [("unicode/utf8.acceptRanges", laid_unicode_utf8_acceptRanges), ("unicode/utf8.first", laid_unicode_utf8_first)] }
def ClusterAtSaid : Prop := clusterAtRow.holds Tryd.pinned (OpenSpec.ofChange clusterAtSpec)

/-- ITS FALSE NEIGHBOUR: 'it returns false'. Refute it at one input. -/
def clusterAtWrong : ChangeSpec := { name := "clusterAt", fn := fun _ => fun
  | [d1, d2] => { results := [.lit (.bool false)], args := [d1, d2] }
  | _ => none }
def ClusterAtWrongFalsely : Prop := clusterAtRow.holds Tryd.pinned (OpenSpec.ofChange clusterAtWrong)

/-- 'shuttlelaw03.ClusterCuts': WHATEVER THE INPUT: true; the input reads as it did. -/
def clusterCutsSpec : ChangeSpec := { name := "clusterCuts", fn := fun _ => fun
  | [d1, d2] => { results := [.lit (.bool true)], args := [d1, d2] }
  | _ => none }
def clusterCutsRow : OpenClaim := { program := "ytlkflbfemlnleaadoor", sum := "632f910f9c0392e0b93ca9351617af0c83d0eeef00db7919b3bc141068cf9ddd", func := "shuttle/shuttlelaw03.ClusterCuts", spec := "clusterCuts", unfollowed := true, recurses := true, named := ["unicode/utf8.first", "unicode/utf8.acceptRanges"], apart := false, laid := [("unicode/utf8.acceptRanges", laid_unicode_utf8_acceptRanges), ("unicode/utf8.first", laid_unicode_utf8_first)] }
def ClusterCutsSaid : Prop := clusterCutsRow.holds Tryd.pinned (OpenSpec.ofChange clusterCutsSpec)

/-- ITS FALSE NEIGHBOUR: 'it returns false'. Refute it at one input. -/
def clusterCutsWrong : ChangeSpec := { name := "clusterCuts", fn := fun _ => fun
  | [d1, d2] => { results := [.lit (.bool false)], args := [d1, d2] }
  | _ => none }
def ClusterCutsWrongFalsely : Prop := clusterCutsRow.holds Tryd.pinned (OpenSpec.ofChange clusterCutsWrong)

/-- 'shuttlelaw03.ClusterOnes': WHATEVER THE INPUT: true; the input reads as it did. -/
def clusterOnesSpec : ChangeSpec := { name := "clusterOnes", fn := fun _ => fun
  | [d] => { results := [.lit (.bool true)], args := [d] }
  | _ => none }
def clusterOnesRow : OpenClaim := { program := "ytlkflbfemlnleaadoor", sum := "632f910f9c0392e0b93ca9351617af0c83d0eeef00db7919b3bc141068cf9ddd", func := "shuttle/shuttlelaw03.ClusterOnes", spec := "clusterOnes", unfollowed := true, recurses := true, named := ["unicode/utf8.first", "unicode/utf8.acceptRanges"], apart := false, laid := [("unicode/utf8.acceptRanges", laid_unicode_utf8_acceptRanges), ("unicode/utf8.first", laid_unicode_utf8_first)] }
def ClusterOnesSaid : Prop := clusterOnesRow.holds Tryd.pinned (OpenSpec.ofChange clusterOnesSpec)

/-- ITS FALSE NEIGHBOUR: 'it returns false'. Refute it at one input. -/
def clusterOnesWrong : ChangeSpec := { name := "clusterOnes", fn := fun _ => fun
  | [d] => { results := [.lit (.bool false)], args := [d] }
  | _ => none }
def ClusterOnesWrongFalsely : Prop := clusterOnesRow.holds Tryd.pinned (OpenSpec.ofChange clusterOnesWrong)

/-- 'shuttlelaw03.ClusterParts': WHATEVER THE INPUT: true; the input reads as it did. -/
def clusterPartsSpec : ChangeSpec := { name := "clusterParts", fn := fun _ => fun
  | [d1, d2, d3] => { results := [.lit (.bool true)], args := [d1, d2, d3] }
  | _ => none }
def clusterPartsRow : OpenClaim := { program := "ytlkflbfemlnleaadoor", sum := "632f910f9c0392e0b93ca9351617af0c83d0eeef00db7919b3bc141068cf9ddd", func := "shuttle/shuttlelaw03.ClusterParts", spec := "clusterParts", unfollowed := true, recurses := true, named := ["unicode/utf8.first", "unicode/utf8.acceptRanges"], apart := false, laid := [("unicode/utf8.acceptRanges", laid_unicode_utf8_acceptRanges), ("unicode/utf8.first", laid_unicode_utf8_first)] }
def ClusterPartsSaid : Prop := clusterPartsRow.holds Tryd.pinned (OpenSpec.ofChange clusterPartsSpec)

/-- ITS FALSE NEIGHBOUR: 'it returns false'. Refute it at one input. -/
def clusterPartsWrong : ChangeSpec := { name := "clusterParts", fn := fun _ => fun
  | [d1, d2, d3] => { results := [.lit (.bool false)], args := [d1, d2, d3] }
  | _ => none }
def ClusterPartsWrongFalsely : Prop := clusterPartsRow.holds Tryd.pinned (OpenSpec.ofChange clusterPartsWrong)

/-- 'shuttlelaw03.ClusterKnown': WHATEVER THE INPUT: true; the input reads as it did. -/
def clusterKnownSpec : ChangeSpec := { name := "clusterKnown", fn := fun _ => fun
  | [] => { results := [.lit (.bool true)], args := [] }
  | _ => none }
def clusterKnownRow : OpenClaim := { program := "ytlkflbfemlnleaadoor", sum := "632f910f9c0392e0b93ca9351617af0c83d0eeef00db7919b3bc141068cf9ddd", func := "shuttle/shuttlelaw03.ClusterKnown", spec := "clusterKnown", unfollowed := true, recurses := true, named := ["unicode/utf8.first", "unicode/utf8.acceptRanges"], apart := false, laid := [("unicode/utf8.acceptRanges", laid_unicode_utf8_acceptRanges), ("unicode/utf8.first", laid_unicode_utf8_first)] }
def ClusterKnownSaid : Prop := clusterKnownRow.holds Tryd.pinned (OpenSpec.ofChange clusterKnownSpec)

/-- ITS FALSE NEIGHBOUR: 'it returns false'. Refute it at one input. -/
def clusterKnownWrong : ChangeSpec := { name := "clusterKnown", fn := fun _ => fun
  | [] => { results := [.lit (.bool false)], args := [] }
  | _ => none }
def ClusterKnownWrongFalsely : Prop := clusterKnownRow.holds Tryd.pinned (OpenSpec.ofChange clusterKnownWrong)

/- THE SECOND FORM. 'bulk': how many values and letters a reading holds, each counted each time it is reached (what is shared counts as often as it is met; a slice's spare places count too). A statement '..UptoSaid' is the law's where the arguments, and the package variables that the reading takes, are together of bulk at most 1048576: NARROWER than '..Said'. Prove '..Said' where nothing that the law and all that it calls make is longer than what came in: it says more and counts as full. Else prove '..UptoSaid'. A law counts once. -/
mutual
def uptoBulk {H : Type} : DataW H → Nat
  | .lit (.string bytes) => bytes.length + 1
  | .lit _ => 1
  | .nil => 1
  | .ptr d => uptoBulk d + 1
  | .slice elems spare => uptoBulkAll elems + uptoBulkAll spare + 1
  | .agg parts => uptoBulkAll parts + 1
  | .iface _ d => uptoBulk d + 1
  | .map entries => uptoBulkEntries entries + 1
  | .held _ => 1
def uptoBulkAll {H : Type} : List (DataW H) → Nat
  | [] => 0
  | d :: r => uptoBulk d + uptoBulkAll r
def uptoBulkEntries {H : Type} : List (Lit × DataW H) → Nat
  | [] => 0
  | x :: r => uptoBulkEntry x + uptoBulkEntries r
def uptoBulkEntry {H : Type} : Lit × DataW H → Nat
  | (.string bytes, d) => bytes.length + uptoBulk d + 1
  | (_, d) => uptoBulk d + 1
 end
def uptoSmall : (H : Type) → List (DataW H) → Bool := fun _ ds => decide (uptoBulkAll ds ≤ 1048576)
def OpenSpec.upto (s : _root_.Go.ChangeSpec) : _root_.Go.OpenSpec := { _root_.Go.OpenSpec.ofChange s with cond := some uptoSmall }

/-- 'shuttlelaw03.ClusterAll', WHERE WHAT IT READS IS OF BULK AT MOST 1048576: true; the input reads as it did. -/
def clusterAllUptoRow : OpenClaim := { program := "ytlkflbfemlnleaadoor", sum := "632f910f9c0392e0b93ca9351617af0c83d0eeef00db7919b3bc141068cf9ddd", func := "shuttle/shuttlelaw03.ClusterAll", spec := "clusterAll", unfollowed := true, recurses := true, named := ["unicode/utf8.first", "unicode/utf8.acceptRanges"], apart := false, laid := [("unicode/utf8.acceptRanges", laid_unicode_utf8_acceptRanges), ("unicode/utf8.first", laid_unicode_utf8_first)], narrowed := true }
def ClusterAllUptoSaid : Prop := clusterAllUptoRow.holds Tryd.pinned (OpenSpec.upto clusterAllSpec)

/-- 'shuttlelaw03.ClusterAt', WHERE WHAT IT READS IS OF BULK AT MOST 1048576: true; the input reads as it did. -/
def clusterAtUptoRow : OpenClaim := { program := "ytlkflbfemlnleaadoor", sum := "632f910f9c0392e0b93ca9351617af0c83d0eeef00db7919b3bc141068cf9ddd", func := "shuttle/shuttlelaw03.ClusterAt", spec := "clusterAt", unfollowed := true, recurses := true, named := ["unicode/utf8.first", "unicode/utf8.acceptRanges"], apart := false, laid := [("unicode/utf8.acceptRanges", laid_unicode_utf8_acceptRanges), ("unicode/utf8.first", laid_unicode_utf8_first)], narrowed := true }
def ClusterAtUptoSaid : Prop := clusterAtUptoRow.holds Tryd.pinned (OpenSpec.upto clusterAtSpec)

/-- 'shuttlelaw03.ClusterCuts', WHERE WHAT IT READS IS OF BULK AT MOST 1048576: true; the input reads as it did. -/
def clusterCutsUptoRow : OpenClaim := { program := "ytlkflbfemlnleaadoor", sum := "632f910f9c0392e0b93ca9351617af0c83d0eeef00db7919b3bc141068cf9ddd", func := "shuttle/shuttlelaw03.ClusterCuts", spec := "clusterCuts", unfollowed := true, recurses := true, named := ["unicode/utf8.first", "unicode/utf8.acceptRanges"], apart := false, laid := [("unicode/utf8.acceptRanges", laid_unicode_utf8_acceptRanges), ("unicode/utf8.first", laid_unicode_utf8_first)], narrowed := true }
def ClusterCutsUptoSaid : Prop := clusterCutsUptoRow.holds Tryd.pinned (OpenSpec.upto clusterCutsSpec)

/-- 'shuttlelaw03.ClusterOnes', WHERE WHAT IT READS IS OF BULK AT MOST 1048576: true; the input reads as it did. -/
def clusterOnesUptoRow : OpenClaim := { program := "ytlkflbfemlnleaadoor", sum := "632f910f9c0392e0b93ca9351617af0c83d0eeef00db7919b3bc141068cf9ddd", func := "shuttle/shuttlelaw03.ClusterOnes", spec := "clusterOnes", unfollowed := true, recurses := true, named := ["unicode/utf8.first", "unicode/utf8.acceptRanges"], apart := false, laid := [("unicode/utf8.acceptRanges", laid_unicode_utf8_acceptRanges), ("unicode/utf8.first", laid_unicode_utf8_first)], narrowed := true }
def ClusterOnesUptoSaid : Prop := clusterOnesUptoRow.holds Tryd.pinned (OpenSpec.upto clusterOnesSpec)

/-- 'shuttlelaw03.ClusterParts', WHERE WHAT IT READS IS OF BULK AT MOST 1048576: true; the input reads as it did. -/
def clusterPartsUptoRow : OpenClaim := { program := "ytlkflbfemlnleaadoor", sum := "632f910f9c0392e0b93ca9351617af0c83d0eeef00db7919b3bc141068cf9ddd", func := "shuttle/shuttlelaw03.ClusterParts", spec := "clusterParts", unfollowed := true, recurses := true, named := ["unicode/utf8.first", "unicode/utf8.acceptRanges"], apart := false, laid := [("unicode/utf8.acceptRanges", laid_unicode_utf8_acceptRanges), ("unicode/utf8.first", laid_unicode_utf8_first)], narrowed := true }
def ClusterPartsUptoSaid : Prop := clusterPartsUptoRow.holds Tryd.pinned (OpenSpec.upto clusterPartsSpec)

/-- 'shuttlelaw03.ClusterKnown', WHERE WHAT IT READS IS OF BULK AT MOST 1048576: true; the input reads as it did. -/
def clusterKnownUptoRow : OpenClaim := { program := "ytlkflbfemlnleaadoor", sum := "632f910f9c0392e0b93ca9351617af0c83d0eeef00db7919b3bc141068cf9ddd", func := "shuttle/shuttlelaw03.ClusterKnown", spec := "clusterKnown", unfollowed := true, recurses := true, named := ["unicode/utf8.first", "unicode/utf8.acceptRanges"], apart := false, laid := [("unicode/utf8.acceptRanges", laid_unicode_utf8_acceptRanges), ("unicode/utf8.first", laid_unicode_utf8_first)], narrowed := true }
def ClusterKnownUptoSaid : Prop := clusterKnownUptoRow.holds Tryd.pinned (OpenSpec.upto clusterKnownSpec)

end Rows
end Go.Proofs.YtlkflbfemlnleaaDoor
