/-
  No cell of these rows narrows 'for every input' (looked for: loops, veiled, ifaces, maps, wideKeys, modest, calm, conditions, laid).
  DERIVED. THE GIVEN ROWS OF THIS SEAT. 7 by the template 'for every input the law returns true; each argument reads behind the call as it read before'; 0 by the template 'total and deterministic' (their statements: YtjecbchnckknkaaTotals.lean).
  GIVEN WITH THE SEED: the statements are not yours to turn. If you find one false, say at which input.
  Laid BY PROGRAM, IN A SANDBOX (cutbox-rows.mjs): the forced cells as the released guide's own fill.sh prints them over the translation 562f58195aa82baf… (all of the seat's roots in one cut). By AI agents, Wed Nov 11 2026. No macro, syntax, notation, axiom, sorry.
-/
import Derived.Test.YtjecbchnckknkaaChecked
import GoSem.Claim
import GoSem.ClaimJoined
import GoSem.ClaimMapViews
import Derived.JoinedTies
import Derived.KernelRfl
namespace Go.Proofs.Ytjecbchnckknkaa
/- THE CELL 'sum', in the pinned program and in every row, IS THE sha256 OF THE DUMP (.gsa) THAT YtjecbchnckknkaaProg.lean LOADS. Nothing in Lean hashes anything: it is a label: what it is worth is what the hold of that sum in a sandbox is worth. -/
noncomputable def Try.pinned : Pinned := { name := "ytjecbchnckknkaa", sum := "562f58195aa82baf3e6d9395aa60a0478d75fc28ac61085a95587830aa8c4bb8", checked := Try.checked }
namespace Rows
def none {H : Type} : Left H := { results := [], args := [] }

/-- 'shuttlelaw11.JoinForms': WHATEVER THE INPUT: true; the input reads as it did. -/
def joinFormsSpec : ChangeSpec := { name := "joinForms", fn := fun _ => fun
  | [d] => { results := [.lit (.bool true)], args := [d] }
  | _ => none }
def joinFormsRow : OpenClaim := { program := "ytjecbchnckknkaa", sum := "562f58195aa82baf3e6d9395aa60a0478d75fc28ac61085a95587830aa8c4bb8", func := "shuttle/shuttlelaw11.JoinForms", spec := "joinForms", unfollowed := true, recurses := true, apart := false }
def JoinFormsSaid : Prop := joinFormsRow.holds Try.pinned (OpenSpec.ofChange joinFormsSpec)

/-- ITS FALSE NEIGHBOUR: 'it returns false'. Refute it at one input. -/
def joinFormsWrong : ChangeSpec := { name := "joinForms", fn := fun _ => fun
  | [d] => { results := [.lit (.bool false)], args := [d] }
  | _ => none }
def JoinFormsWrongFalsely : Prop := joinFormsRow.holds Try.pinned (OpenSpec.ofChange joinFormsWrong)

/-- 'shuttlelaw11.JoinShaped': WHATEVER THE INPUT: true; the input reads as it did. -/
def joinShapedSpec : ChangeSpec := { name := "joinShaped", fn := fun _ => fun
  | [d] => { results := [.lit (.bool true)], args := [d] }
  | _ => none }
def joinShapedRow : OpenClaim := { program := "ytjecbchnckknkaa", sum := "562f58195aa82baf3e6d9395aa60a0478d75fc28ac61085a95587830aa8c4bb8", func := "shuttle/shuttlelaw11.JoinShaped", spec := "joinShaped", unfollowed := true, recurses := true, apart := false }
def JoinShapedSaid : Prop := joinShapedRow.holds Try.pinned (OpenSpec.ofChange joinShapedSpec)

/-- ITS FALSE NEIGHBOUR: 'it returns false'. Refute it at one input. -/
def joinShapedWrong : ChangeSpec := { name := "joinShaped", fn := fun _ => fun
  | [d] => { results := [.lit (.bool false)], args := [d] }
  | _ => none }
def JoinShapedWrongFalsely : Prop := joinShapedRow.holds Try.pinned (OpenSpec.ofChange joinShapedWrong)

/-- 'shuttlelaw11.JoinShapes': WHATEVER THE INPUT: true; the input reads as it did. -/
def joinShapesSpec : ChangeSpec := { name := "joinShapes", fn := fun _ => fun
  | [d1, d2] => { results := [.lit (.bool true)], args := [d1, d2] }
  | _ => none }
def joinShapesRow : OpenClaim := { program := "ytjecbchnckknkaa", sum := "562f58195aa82baf3e6d9395aa60a0478d75fc28ac61085a95587830aa8c4bb8", func := "shuttle/shuttlelaw11.JoinShapes", spec := "joinShapes", unfollowed := true, recurses := true, apart := false }
def JoinShapesSaid : Prop := joinShapesRow.holds Try.pinned (OpenSpec.ofChange joinShapesSpec)

/-- ITS FALSE NEIGHBOUR: 'it returns false'. Refute it at one input. -/
def joinShapesWrong : ChangeSpec := { name := "joinShapes", fn := fun _ => fun
  | [d1, d2] => { results := [.lit (.bool false)], args := [d1, d2] }
  | _ => none }
def JoinShapesWrongFalsely : Prop := joinShapesRow.holds Try.pinned (OpenSpec.ofChange joinShapesWrong)

/-- 'shuttlelaw11.JoinBack': WHATEVER THE INPUT: true; the input reads as it did. -/
def joinBackSpec : ChangeSpec := { name := "joinBack", fn := fun _ => fun
  | [d] => { results := [.lit (.bool true)], args := [d] }
  | _ => none }
def joinBackRow : OpenClaim := { program := "ytjecbchnckknkaa", sum := "562f58195aa82baf3e6d9395aa60a0478d75fc28ac61085a95587830aa8c4bb8", func := "shuttle/shuttlelaw11.JoinBack", spec := "joinBack", unfollowed := true, recurses := true, apart := false }
def JoinBackSaid : Prop := joinBackRow.holds Try.pinned (OpenSpec.ofChange joinBackSpec)

/-- ITS FALSE NEIGHBOUR: 'it returns false'. Refute it at one input. -/
def joinBackWrong : ChangeSpec := { name := "joinBack", fn := fun _ => fun
  | [d] => { results := [.lit (.bool false)], args := [d] }
  | _ => none }
def JoinBackWrongFalsely : Prop := joinBackRow.holds Try.pinned (OpenSpec.ofChange joinBackWrong)

/-- 'shuttlelaw11.JoinMarks': WHATEVER THE INPUT: true; the input reads as it did. -/
def joinMarksSpec : ChangeSpec := { name := "joinMarks", fn := fun _ => fun
  | [d1, d2, d3] => { results := [.lit (.bool true)], args := [d1, d2, d3] }
  | _ => none }
def joinMarksRow : OpenClaim := { program := "ytjecbchnckknkaa", sum := "562f58195aa82baf3e6d9395aa60a0478d75fc28ac61085a95587830aa8c4bb8", func := "shuttle/shuttlelaw11.JoinMarks", spec := "joinMarks", unfollowed := true, recurses := true, apart := false }
def JoinMarksSaid : Prop := joinMarksRow.holds Try.pinned (OpenSpec.ofChange joinMarksSpec)

/-- ITS FALSE NEIGHBOUR: 'it returns false'. Refute it at one input. -/
def joinMarksWrong : ChangeSpec := { name := "joinMarks", fn := fun _ => fun
  | [d1, d2, d3] => { results := [.lit (.bool false)], args := [d1, d2, d3] }
  | _ => none }
def JoinMarksWrongFalsely : Prop := joinMarksRow.holds Try.pinned (OpenSpec.ofChange joinMarksWrong)

/-- 'shuttlelaw11.JoinMutual': WHATEVER THE INPUT: true; the input reads as it did. -/
def joinMutualSpec : ChangeSpec := { name := "joinMutual", fn := fun _ => fun
  | [d] => { results := [.lit (.bool true)], args := [d] }
  | _ => none }
def joinMutualRow : OpenClaim := { program := "ytjecbchnckknkaa", sum := "562f58195aa82baf3e6d9395aa60a0478d75fc28ac61085a95587830aa8c4bb8", func := "shuttle/shuttlelaw11.JoinMutual", spec := "joinMutual", unfollowed := true, recurses := true, apart := false }
def JoinMutualSaid : Prop := joinMutualRow.holds Try.pinned (OpenSpec.ofChange joinMutualSpec)

/-- ITS FALSE NEIGHBOUR: 'it returns false'. Refute it at one input. -/
def joinMutualWrong : ChangeSpec := { name := "joinMutual", fn := fun _ => fun
  | [d] => { results := [.lit (.bool false)], args := [d] }
  | _ => none }
def JoinMutualWrongFalsely : Prop := joinMutualRow.holds Try.pinned (OpenSpec.ofChange joinMutualWrong)

/-- 'shuttlelaw11.JoinKnown': WHATEVER THE INPUT: true; the input reads as it did. -/
def joinKnownSpec : ChangeSpec := { name := "joinKnown", fn := fun _ => fun
  | [] => { results := [.lit (.bool true)], args := [] }
  | _ => none }
def joinKnownRow : OpenClaim := { program := "ytjecbchnckknkaa", sum := "562f58195aa82baf3e6d9395aa60a0478d75fc28ac61085a95587830aa8c4bb8", func := "shuttle/shuttlelaw11.JoinKnown", spec := "joinKnown", unfollowed := true, recurses := true, apart := false }
def JoinKnownSaid : Prop := joinKnownRow.holds Try.pinned (OpenSpec.ofChange joinKnownSpec)

/-- ITS FALSE NEIGHBOUR: 'it returns false'. Refute it at one input. -/
def joinKnownWrong : ChangeSpec := { name := "joinKnown", fn := fun _ => fun
  | [] => { results := [.lit (.bool false)], args := [] }
  | _ => none }
def JoinKnownWrongFalsely : Prop := joinKnownRow.holds Try.pinned (OpenSpec.ofChange joinKnownWrong)

/- THE SECOND FORM. 'bulk': how many values and letters a reading holds, each counted each time it is reached (what is shared counts as often as it is met; a slice's spare places count too). A statement '..UptoSaid' is the law's where the arguments, and the package variables that the reading takes, are together of bulk at most 1048576: NARROWER than '..Said'. Prove '..Said' where nothing that the law and all that it calls make is longer than what came in: it says more and counts as full. Else prove '..UptoSaid'. A law counts once. -/
mutual
def uptoBulk {H : Type} : DataW H → Nat
  | .lit (.string bytes) => bytes.length + 1
  | .lit _ => 1
  | .nil => 1
  | .ptr d => uptoBulk d + 1
  | .slice elems spare => uptoBulkAll elems + uptoBulkAll spare + 1
  | .agg parts => uptoBulkAll parts + 1
  | .iface _ d => uptoBulk d + 1
  | .map entries => uptoBulkEntries entries + 1
  | .held _ => 1
def uptoBulkAll {H : Type} : List (DataW H) → Nat
  | [] => 0
  | d :: r => uptoBulk d + uptoBulkAll r
def uptoBulkEntries {H : Type} : List (Lit × DataW H) → Nat
  | [] => 0
  | x :: r => uptoBulkEntry x + uptoBulkEntries r
def uptoBulkEntry {H : Type} : Lit × DataW H → Nat
  | (.string bytes, d) => bytes.length + uptoBulk d + 1
  | (_, d) => uptoBulk d + 1
 end
def uptoSmall : (H : Type) → List (DataW H) → Bool := fun _ ds => decide (uptoBulkAll ds ≤ 1048576)
def OpenSpec.upto (s : _root_.Go.ChangeSpec) : _root_.Go.OpenSpec := { _root_.Go.OpenSpec.ofChange s with cond := some uptoSmall }

/-- 'shuttlelaw11.JoinForms', WHERE WHAT IT READS IS OF BULK AT MOST 1048576: true; the input reads as it did. -/
def joinFormsUptoRow : OpenClaim := { program := "ytjecbchnckknkaa", sum := "562f58195aa82baf3e6d9395aa60a0478d75fc28ac61085a95587830aa8c4bb8", func := "shuttle/shuttlelaw11.JoinForms", spec := "joinForms", unfollowed := true, recurses := true, apart := false, narrowed := true }
def JoinFormsUptoSaid : Prop := joinFormsUptoRow.holds Try.pinned (OpenSpec.upto joinFormsSpec)

/-- 'shuttlelaw11.JoinShaped', WHERE WHAT IT READS IS OF BULK AT MOST 1048576: true; the input reads as it did. -/
def joinShapedUptoRow : OpenClaim := { program := "ytjecbchnckknkaa", sum := "562f58195aa82baf3e6d9395aa60a0478d75fc28ac61085a95587830aa8c4bb8", func := "shuttle/shuttlelaw11.JoinShaped", spec := "joinShaped", unfollowed := true, recurses := true, apart := false, narrowed := true }
def JoinShapedUptoSaid : Prop := joinShapedUptoRow.holds Try.pinned (OpenSpec.upto joinShapedSpec)

/-- 'shuttlelaw11.JoinShapes', WHERE WHAT IT READS IS OF BULK AT MOST 1048576: true; the input reads as it did. -/
def joinShapesUptoRow : OpenClaim := { program := "ytjecbchnckknkaa", sum := "562f58195aa82baf3e6d9395aa60a0478d75fc28ac61085a95587830aa8c4bb8", func := "shuttle/shuttlelaw11.JoinShapes", spec := "joinShapes", unfollowed := true, recurses := true, apart := false, narrowed := true }
def JoinShapesUptoSaid : Prop := joinShapesUptoRow.holds Try.pinned (OpenSpec.upto joinShapesSpec)

/-- 'shuttlelaw11.JoinBack', WHERE WHAT IT READS IS OF BULK AT MOST 1048576: true; the input reads as it did. -/
def joinBackUptoRow : OpenClaim := { program := "ytjecbchnckknkaa", sum := "562f58195aa82baf3e6d9395aa60a0478d75fc28ac61085a95587830aa8c4bb8", func := "shuttle/shuttlelaw11.JoinBack", spec := "joinBack", unfollowed := true, recurses := true, apart := false, narrowed := true }
def JoinBackUptoSaid : Prop := joinBackUptoRow.holds Try.pinned (OpenSpec.upto joinBackSpec)

/-- 'shuttlelaw11.JoinMarks', WHERE WHAT IT READS IS OF BULK AT MOST 1048576: true; the input reads as it did. -/
def joinMarksUptoRow : OpenClaim := { program := "ytjecbchnckknkaa", sum := "562f58195aa82baf3e6d9395aa60a0478d75fc28ac61085a95587830aa8c4bb8", func := "shuttle/shuttlelaw11.JoinMarks", spec := "joinMarks", unfollowed := true, recurses := true, apart := false, narrowed := true }
def JoinMarksUptoSaid : Prop := joinMarksUptoRow.holds Try.pinned (OpenSpec.upto joinMarksSpec)

/-- 'shuttlelaw11.JoinMutual', WHERE WHAT IT READS IS OF BULK AT MOST 1048576: true; the input reads as it did. -/
def joinMutualUptoRow : OpenClaim := { program := "ytjecbchnckknkaa", sum := "562f58195aa82baf3e6d9395aa60a0478d75fc28ac61085a95587830aa8c4bb8", func := "shuttle/shuttlelaw11.JoinMutual", spec := "joinMutual", unfollowed := true, recurses := true, apart := false, narrowed := true }
def JoinMutualUptoSaid : Prop := joinMutualUptoRow.holds Try.pinned (OpenSpec.upto joinMutualSpec)

/-- 'shuttlelaw11.JoinKnown', WHERE WHAT IT READS IS OF BULK AT MOST 1048576: true; the input reads as it did. -/
def joinKnownUptoRow : OpenClaim := { program := "ytjecbchnckknkaa", sum := "562f58195aa82baf3e6d9395aa60a0478d75fc28ac61085a95587830aa8c4bb8", func := "shuttle/shuttlelaw11.JoinKnown", spec := "joinKnown", unfollowed := true, recurses := true, apart := false, narrowed := true }
def JoinKnownUptoSaid : Prop := joinKnownUptoRow.holds Try.pinned (OpenSpec.upto joinKnownSpec)

end Rows
end Go.Proofs.Ytjecbchnckknkaa
