/- The document's answer: the six switches. Written by a program of mine (tools/mkdata.py). -/
import Derived.Test.YtkcckophnamajaaKnown
import Derived.Test.YtkcckophnamajaaData
set_option linter.unusedSimpArgs false
set_option linter.unusedVariables false
namespace Go.Proofs.Ytkcckophnamajaa
open Go.RowKit

set_option maxRecDepth 100000 in
theorem refDir_any (x : Int) (w : World) : Calls Try.prog 50 #[.int .i32 x] w fun e w' => e = .returned (.int .i8 (firstRow (plainRows dirS) dirD (char x) : Nat)) ∧ w' = w :=
  switch_calls (tR := 21) (tB := 4) (tV := 33) (kV := .i8) (known := 64) (p0 := "ref.go:41") (p1 := "ref.go:42") (pd := "ref.go:95") (z := 0) (rid := 143) (l := dirS) (d := dirD)
    Try.func50 (by kernel_rfl) rfl (by decide +kernel) (by decide +kernel) x (char x) w (known_any x w)
    fun ρ h3 hk => run_call rfl rfl (by simp [h3]) hk (enters_of Try.func64 (by kernel_rfl) rfl _ _)

end Go.Proofs.Ytkcckophnamajaa
