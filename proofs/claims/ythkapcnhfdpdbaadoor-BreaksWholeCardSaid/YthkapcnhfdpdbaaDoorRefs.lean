/- The document's answer: the six switches. Written by a program of mine (tools/mkdata.py). -/
import Derived.Test.YthkapcnhfdpdbaaDoorClassG
import Derived.Test.YthkapcnhfdpdbaaDoorData
set_option linter.unusedSimpArgs false
set_option linter.unusedVariables false
namespace Go.Proofs.YthkapcnhfdpdbaaDoor
open Go.RowKit

set_option maxRecDepth 100000 in
theorem refKind_any (x : Int) (w : World) : Calls Tryd.prog 70 #[.int .i32 x] w fun e w' => e = .returned (.int .i8 (firstRow (plainRows kindS) kindD (char x) : Nat)) ∧ w' = w :=
  switch_calls (tR := 21) (tB := 4) (tV := 25) (kV := .i8) (known := 45) (p0 := "ref.go:17") (p1 := "ref.go:18") (pd := "ref.go:37") (z := 0) (rid := 128) (l := kindS) (d := kindD)
    Tryd.func70 (by kernel_rfl) rfl (by decide +kernel) (by decide +kernel) x (char x) w (known_any x w)
    fun ρ h3 hk => run_call rfl rfl (by simp [h3]) hk (enters_of Tryd.func45 (by kernel_rfl) rfl _ _)

set_option maxRecDepth 100000 in
theorem refBreak_any (x : Int) (w : World) : Calls Tryd.prog 30 #[.int .i32 x] w fun e w' => e = .returned (.int .i8 (firstRow (plainRows breakS) breakD (char x) : Nat)) ∧ w' = w :=
  switch_calls (tR := 21) (tB := 4) (tV := 25) (kV := .i8) (known := 45) (p0 := "ref.go:115") (p1 := "ref.go:116") (pd := "ref.go:143") (z := 0) (rid := 140) (l := breakS) (d := breakD)
    Tryd.func30 (by kernel_rfl) rfl (by decide +kernel) (by decide +kernel) x (char x) w (known_any x w)
    fun ρ h3 hk => run_call rfl rfl (by simp [h3]) hk (enters_of Tryd.func45 (by kernel_rfl) rfl _ _)

set_option maxRecDepth 100000 in
theorem refColumns_any (x : Int) (w : World) : Calls Tryd.prog 88 #[.int .i32 x] w fun e w' => e = .returned (.int .i64 (firstRow (plainRows widthS) widthD (char x) : Nat)) ∧ w' = w :=
  switch_calls (tR := 21) (tB := 4) (tV := 3) (kV := .i64) (known := 45) (p0 := "ref.go:147") (p1 := "ref.go:148") (pd := "ref.go:157") (z := 0) (rid := 86) (l := widthS) (d := widthD)
    Tryd.func88 (by kernel_rfl) rfl (by decide +kernel) (by decide +kernel) x (char x) w (known_any x w)
    fun ρ h3 hk => run_call rfl rfl (by simp [h3]) hk (enters_of Tryd.func45 (by kernel_rfl) rfl _ _)

end Go.Proofs.YthkapcnhfdpdbaaDoor
