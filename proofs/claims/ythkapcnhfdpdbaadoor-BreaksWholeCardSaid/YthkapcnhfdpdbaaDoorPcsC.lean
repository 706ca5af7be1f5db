/- The law's own helper that collects what an iterator tells. -/
import Derived.Test.YthkapcnhfdpdbaaDoorClBack
set_option linter.unusedSimpArgs false
set_option linter.unusedVariables false
namespace Go.Proofs.YthkapcnhfdpdbaaDoor
open Go.RowKit Go.Shelf Go.Lib
attribute [local go_sem] Oper.semAt_some

abbrev pcCells (L : List (Nat × ByteArray)) : List Value := L.flatMap fun x => [Value.int .i64 (x.1 : Int), Value.string x.2]
theorem pcCells_snoc (L : List (Nat × ByteArray)) (x : Nat × ByteArray) : pcCells (L ++ [x]) = pcCells L ++ [Value.int .i64 (x.1 : Int), Value.string x.2] := by simp [pcCells]
end Go.Proofs.YthkapcnhfdpdbaaDoor
