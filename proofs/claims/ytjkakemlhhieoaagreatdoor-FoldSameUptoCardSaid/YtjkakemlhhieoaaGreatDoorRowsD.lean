/- The document's rows of letters, as a slice. -/
import Derived.Test.YtjkakemlhhieoaaGreatDoorPureGF
import Derived.Test.YtjkakemlhhieoaaGreatDoorMem
import Derived.Test.YtjkakemlhhieoaaGreatDoorRows
import Derived.WalkKit
import Derived.BigQuiet
import Derived.Deep.QuietTactic
set_option linter.unusedSimpArgs false
set_option linter.unusedVariables false
namespace Go.Proofs.YtjkakemlhhieoaaGreatDoor
open Go.RowKit Go.Lib

/-- a row's four numbers, in the order of the document's struct -/
def rowY (x : RowF) : List Int := [x.1, x.2.1, x.2.2.2, x.2.2.1]
def rowsDV : List Value := (rowsD.flatMap rowY).map (Value.int .i32)
set_option maxRecDepth 100000 in
set_option maxHeartbeats 4000000 in
theorem Rows_any5 (w : World) : Calls Tryz.prog 58 #[] w fun e w' => e = .returned (.slice (some ⟨w.heap.size, 0, none⟩) 24 24) ∧ w' = w.alloc (.cells rowsDV.toArray 73) := by
  go_enter Tryz.func58, Tryz.ntmps58
  go_wp2_with fail
  go_ret
  exact ⟨rfl, by kernel_rfl⟩
end Go.Proofs.YtjkakemlhhieoaaGreatDoor
