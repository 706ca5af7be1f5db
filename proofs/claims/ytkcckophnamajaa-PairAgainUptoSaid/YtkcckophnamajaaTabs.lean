/- The six tables of package class: what each says of a number. Written by a program of mine (tools/mkdata.py). -/
import Derived.Test.YtkcckophnamajaaSeek
import Derived.Test.YtkcckophnamajaaData
set_option linter.unusedSimpArgs false
set_option linter.unusedVariables false
namespace Go.Proofs.Ytkcckophnamajaa
open Go.RowKit

set_option maxRecDepth 100000 in
theorem dirs_any (r : Nat) (w : World) : Calls Try.prog 70 #[.int .i32 (r : Int)] w fun e w' => e = .returned (.tuple #[.int .u8 (cls dirsL r : Nat), .int .i32 (endFrom dirsL r : Nat)]) ∧ Below w.heap.size w w' :=
  table_calls (tR := 21) (tU := 5) (tT := 103) (tE := 109) (tA := 110) (tS := 112) (seek := 73) (p0 := "tables.go:92") (p1 := "tables.go:93") (p2 := "tables.go:130") (L := dirsL)
    Try.func70 (by kernel_rfl) rfl (by kernel_rfl) ⟨fun _ _ => by kernel_rfl, by kernel_rfl, by kernel_rfl, by kernel_rfl, by kernel_rfl⟩ r w _ _ (enters_of Try.func73 (by kernel_rfl) rfl)
    fun W b _ hb _ hc => seek_any dirsL (by decide +kernel) (by decide +kernel) (by decide +kernel) (by decide +kernel) r W b hb hc

end Go.Proofs.Ytkcckophnamajaa
