/- The document's answer: the six switches. Written by a program of mine (tools/mkdata.py). -/
import Derived.Test.YtiafofekobcifaaDoorClassG
import Derived.Test.YtiafofekobcifaaDoorData
set_option linter.unusedSimpArgs false
set_option linter.unusedVariables false
namespace Go.Proofs.YtiafofekobcifaaDoor
open Go.RowKit

set_option maxRecDepth 100000 in
theorem refKind_any (x : Int) (w : World) : Calls Tryd.prog 40 #[.int .i32 x] w fun e w' => e = .returned (.int .i8 (firstRow (plainRows kindS) kindD (char x) : Nat)) ∧ w' = w :=
  switch_calls (tR := 21) (tB := 4) (tV := 51) (kV := .i8) (known := 59) (p0 := "ref.go:17") (p1 := "ref.go:18") (pd := "ref.go:37") (z := 0) (rid := 128) (l := kindS) (d := kindD)
    Tryd.func40 (by kernel_rfl) rfl (by decide +kernel) (by decide +kernel) x (char x) w (known_any x w)
    fun ρ h3 hk => run_call rfl rfl (by simp [h3]) hk (enters_of Tryd.func59 (by kernel_rfl) rfl _ _)

set_option maxRecDepth 100000 in
theorem refBreak_any (x : Int) (w : World) : Calls Tryd.prog 41 #[.int .i32 x] w fun e w' => e = .returned (.int .i8 (firstRow (plainRows breakS) breakD (char x) : Nat)) ∧ w' = w :=
  switch_calls (tR := 21) (tB := 4) (tV := 51) (kV := .i8) (known := 59) (p0 := "ref.go:115") (p1 := "ref.go:116") (pd := "ref.go:143") (z := 0) (rid := 140) (l := breakS) (d := breakD)
    Tryd.func41 (by kernel_rfl) rfl (by decide +kernel) (by decide +kernel) x (char x) w (known_any x w)
    fun ρ h3 hk => run_call rfl rfl (by simp [h3]) hk (enters_of Tryd.func59 (by kernel_rfl) rfl _ _)

set_option maxRecDepth 100000 in
theorem refColumns_any (x : Int) (w : World) : Calls Tryd.prog 98 #[.int .i32 x] w fun e w' => e = .returned (.int .i64 (firstRow (plainRows widthS) widthD (char x) : Nat)) ∧ w' = w :=
  switch_calls (tR := 21) (tB := 4) (tV := 3) (kV := .i64) (known := 59) (p0 := "ref.go:147") (p1 := "ref.go:148") (pd := "ref.go:157") (z := 0) (rid := 86) (l := widthS) (d := widthD)
    Tryd.func98 (by kernel_rfl) rfl (by decide +kernel) (by decide +kernel) x (char x) w (known_any x w)
    fun ρ h3 hk => run_call rfl rfl (by simp [h3]) hk (enters_of Tryd.func59 (by kernel_rfl) rfl _ _)

end Go.Proofs.YtiafofekobcifaaDoor
