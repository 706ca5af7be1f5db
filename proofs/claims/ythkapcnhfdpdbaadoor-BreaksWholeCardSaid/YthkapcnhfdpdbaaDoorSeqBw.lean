/- The iterator of slices.Backward: its contract. -/
import Derived.Test.YthkapcnhfdpdbaaDoorSeqAB
set_option linter.unusedSimpArgs false
set_option linter.unusedVariables false
namespace Go.Proofs.YthkapcnhfdpdbaaDoor
open Go.RowKit Go.Shelf Go.Lib
attribute [local go_sem] Oper.semAt_some

/-- the elements of a list with their places -/
def idx (xs : List Nat) : List (Nat × Nat) := xs.zipIdx.map fun p => (p.2, p.1)
theorem idx_len (xs : List Nat) : (idx xs).length = xs.length := by simp [idx]
theorem idx_take (xs : List Nat) (k : Nat) (h : k < xs.length) : idx (xs.take (k + 1)) = idx (xs.take k) ++ [(k, xs[k])] := by
  unfold idx
  rw [List.take_succ_eq_append_getElem h, List.zipIdx_append, List.map_append]
  simp [Nat.min_eq_left (Nat.le_of_lt h)]
abbrev encBw (x : Nat × Nat) : Array Value := #[.int .i64 (x.1 : Int), .int .i64 (x.2 : Int)]
end Go.Proofs.YthkapcnhfdpdbaaDoor
