/- The document's rows of letters, as a slice. -/
import Derived.Test.YtjkakemlhhieoaaDoorPureGF
import Derived.Test.YtjkakemlhhieoaaDoorMem
import Derived.Test.YtjkakemlhhieoaaDoorRows
import Derived.WalkKit
import Derived.BigQuiet
import Derived.Deep.QuietTactic
set_option linter.unusedSimpArgs false
set_option linter.unusedVariables false
namespace Go.Proofs.YtjkakemlhhieoaaDoor
open Go.RowKit Go.Lib

/-- a row's four numbers, in the order of the document's struct -/
def rowY (x : RowF) : List Int := [x.1, x.2.1, x.2.2.2, x.2.2.1]
def rowsDV : List Value := (rowsD.flatMap rowY).map (Value.int .i32)
set_option maxRecDepth 100000 in
set_option maxHeartbeats 4000000 in
theorem Rows_any5 (w : World) : Calls Tryd.prog 25 #[] w fun e w' => e = .returned (.slice (some ⟨w.heap.size, 0, none⟩) 24 24) ∧ w' = w.alloc (.cells rowsDV.toArray 38) := by
  go_enter Tryd.func25, Tryd.ntmps25
  go_wp2_with fail
  go_ret
  exact ⟨rfl, by kernel_rfl⟩
end Go.Proofs.YtjkakemlhhieoaaDoor
