/- The document's answer: the six switches. Written by a program of mine (tools/mkdata.py). -/
import Derived.Test.YtjecbchnckknkaaKnown
import Derived.Test.YtjecbchnckknkaaData
set_option linter.unusedSimpArgs false
set_option linter.unusedVariables false
namespace Go.Proofs.Ytjecbchnckknkaa
open Go.RowKit

set_option maxRecDepth 100000 in
theorem refJoin_any (x : Int) (w : World) : Calls Try.prog 28 #[.int .i32 x] w fun e w' => e = .returned (.int .i8 (firstRow (plainRows joinS) joinD (char x) : Nat)) ∧ w' = w :=
  switch_calls (tR := 21) (tB := 4) (tV := 27) (kV := .i8) (known := 40) (p0 := "ref.go:99") (p1 := "ref.go:100") (pd := "ref.go:111") (z := 0) (rid := 43) (l := joinS) (d := joinD)
    Try.func28 (by kernel_rfl) rfl (by decide +kernel) (by decide +kernel) x (char x) w (known_any x w)
    fun ρ h3 hk => run_call rfl rfl (by simp [h3]) hk (enters_of Try.func40 (by kernel_rfl) rfl _ _)

end Go.Proofs.Ytjecbchnckknkaa
