/- The document's answer: the six switches. Written by a program of mine (tools/mkdata.py). -/
import Derived.Test.YthakdkpgobloiabKnown
import Derived.Test.YthakdkpgobloiabData
namespace Go.Proofs.Ythakdkpgobloiab
open Go.RowKit

set_option maxRecDepth 100000 in
theorem refKind_any (x : Int) (w : World) : Calls Try.prog 30 #[.int .i32 x] w fun e w' => e = .returned (.int .i8 (firstRow (plainRows kindS) kindD (char x) : Nat)) ∧ w' = w :=
  switch_calls (tR := 21) (tB := 4) (tV := 30) (kV := .i8) (known := 49) (p0 := "ref.go:17") (p1 := "ref.go:18") (pd := "ref.go:37") (z := 0) (rid := 128) (l := kindS) (d := kindD)
    Try.func30 (by kernel_rfl) rfl (by decide +kernel) (by decide +kernel) x (char x) w (known_any x w)
    fun ρ h3 hk => run_call rfl rfl (by simp [h3]) hk (enters_of Try.func49 (by kernel_rfl) rfl _ _)

set_option maxRecDepth 100000 in
theorem refDir_any (x : Int) (w : World) : Calls Try.prog 31 #[.int .i32 x] w fun e w' => e = .returned (.int .i8 (firstRow (plainRows dirS) dirD (char x) : Nat)) ∧ w' = w :=
  switch_calls (tR := 21) (tB := 4) (tV := 30) (kV := .i8) (known := 49) (p0 := "ref.go:41") (p1 := "ref.go:42") (pd := "ref.go:95") (z := 0) (rid := 143) (l := dirS) (d := dirD)
    Try.func31 (by kernel_rfl) rfl (by decide +kernel) (by decide +kernel) x (char x) w (known_any x w)
    fun ρ h3 hk => run_call rfl rfl (by simp [h3]) hk (enters_of Try.func49 (by kernel_rfl) rfl _ _)

set_option maxRecDepth 100000 in
theorem refJoin_any (x : Int) (w : World) : Calls Try.prog 34 #[.int .i32 x] w fun e w' => e = .returned (.int .i8 (firstRow (plainRows joinS) joinD (char x) : Nat)) ∧ w' = w :=
  switch_calls (tR := 21) (tB := 4) (tV := 30) (kV := .i8) (known := 49) (p0 := "ref.go:99") (p1 := "ref.go:100") (pd := "ref.go:111") (z := 0) (rid := 43) (l := joinS) (d := joinD)
    Try.func34 (by kernel_rfl) rfl (by decide +kernel) (by decide +kernel) x (char x) w (known_any x w)
    fun ρ h3 hk => run_call rfl rfl (by simp [h3]) hk (enters_of Try.func49 (by kernel_rfl) rfl _ _)

set_option maxRecDepth 100000 in
theorem refBreak_any (x : Int) (w : World) : Calls Try.prog 35 #[.int .i32 x] w fun e w' => e = .returned (.int .i8 (firstRow (plainRows breakS) breakD (char x) : Nat)) ∧ w' = w :=
  switch_calls (tR := 21) (tB := 4) (tV := 30) (kV := .i8) (known := 49) (p0 := "ref.go:115") (p1 := "ref.go:116") (pd := "ref.go:143") (z := 0) (rid := 140) (l := breakS) (d := breakD)
    Try.func35 (by kernel_rfl) rfl (by decide +kernel) (by decide +kernel) x (char x) w (known_any x w)
    fun ρ h3 hk => run_call rfl rfl (by simp [h3]) hk (enters_of Try.func49 (by kernel_rfl) rfl _ _)

set_option maxRecDepth 100000 in
theorem refMark_any (x : Int) (w : World) : Calls Try.prog 33 #[.int .i32 x] w fun e w' => e = .returned (.int .u8 (firstRow (plainRows markS) markD (char x) : Nat)) ∧ w' = w :=
  switch_calls (tR := 21) (tB := 4) (tV := 5) (kV := .u8) (known := 49) (p0 := "ref.go:173") (p1 := "ref.go:174") (pd := "ref.go:259") (z := 0) (rid := 133) (l := markS) (d := markD)
    Try.func33 (by kernel_rfl) rfl (by decide +kernel) (by decide +kernel) x (char x) w (known_any x w)
    fun ρ h3 hk => run_call rfl rfl (by simp [h3]) hk (enters_of Try.func49 (by kernel_rfl) rfl _ _)

set_option maxRecDepth 100000 in
theorem refColumns_any (x : Int) (w : World) : Calls Try.prog 50 #[.int .i32 x] w fun e w' => e = .returned (.int .i64 (firstRow (plainRows widthS) widthD (char x) : Nat)) ∧ w' = w :=
  switch_calls (tR := 21) (tB := 4) (tV := 3) (kV := .i64) (known := 49) (p0 := "ref.go:147") (p1 := "ref.go:148") (pd := "ref.go:157") (z := 0) (rid := 86) (l := widthS) (d := widthD)
    Try.func50 (by kernel_rfl) rfl (by decide +kernel) (by decide +kernel) x (char x) w (known_any x w)
    fun ρ h3 hk => run_call rfl rfl (by simp [h3]) hk (enters_of Try.func49 (by kernel_rfl) rfl _ _)

end Go.Proofs.Ythakdkpgobloiab
