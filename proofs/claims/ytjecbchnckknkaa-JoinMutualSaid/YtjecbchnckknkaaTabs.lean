/- The six tables of package class: what each says of a number. Written by a program of mine (tools/mkdata.py). -/
import Derived.Test.YtjecbchnckknkaaSeek
import Derived.Test.YtjecbchnckknkaaData
set_option linter.unusedSimpArgs false
set_option linter.unusedVariables false
namespace Go.Proofs.Ytjecbchnckknkaa
open Go.RowKit

set_option maxRecDepth 100000 in
theorem joins_any (r : Nat) (w : World) : Calls Try.prog 38 #[.int .i32 (r : Int)] w fun e w' => e = .returned (.tuple #[.int .u8 (cls joinsL r : Nat), .int .i32 (endFrom joinsL r : Nat)]) ∧ Below w.heap.size w w' :=
  table_calls (tR := 21) (tU := 5) (tT := 51) (tE := 54) (tA := 55) (tS := 57) (seek := 41) (p0 := "tables.go:181") (p1 := "tables.go:182") (p2 := "tables.go:200") (L := joinsL)
    Try.func38 (by kernel_rfl) rfl (by kernel_rfl) ⟨fun _ _ => by kernel_rfl, by kernel_rfl, by kernel_rfl, by kernel_rfl, by kernel_rfl⟩ r w _ _ (enters_of Try.func41 (by kernel_rfl) rfl)
    fun W b _ hb _ hc => seek_any joinsL (by decide +kernel) (by decide +kernel) (by decide +kernel) (by decide +kernel) r W b hb hc

end Go.Proofs.Ytjecbchnckknkaa
