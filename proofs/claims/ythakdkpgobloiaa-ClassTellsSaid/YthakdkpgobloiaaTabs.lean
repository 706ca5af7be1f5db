/- The six tables of package class: what each says of a number. Written by a program of mine (tools/mkdata.py). -/
import Derived.Test.YthakdkpgobloiaaSeek
import Derived.Test.YthakdkpgobloiaaData
namespace Go.Proofs.Ythakdkpgobloiaa
open Go.RowKit

set_option maxRecDepth 100000 in
theorem kinds_any (r : Nat) (w : World) : Calls Try.prog 17 #[.int .i32 (r : Int)] w fun e w' => e = .returned (.tuple #[.int .u8 (cls kindsL r : Nat), .int .i32 (endFrom kindsL r : Nat)]) ∧ Below w.heap.size w w' :=
  table_calls (tR := 21) (tU := 5) (tT := 28) (tE := 39) (tA := 40) (tS := 42) (seek := 29) (p0 := "tables.go:48") (p1 := "tables.go:49") (p2 := "tables.go:88") (L := kindsL)
    Try.func17 (by kernel_rfl) rfl (by kernel_rfl) ⟨fun _ _ => by kernel_rfl, by kernel_rfl, by kernel_rfl, by kernel_rfl, by kernel_rfl⟩ r w _ _ (enters_of Try.func29 (by kernel_rfl) rfl)
    fun W b _ hb _ hc => seek_any kindsL (by decide +kernel) (by decide +kernel) (by decide +kernel) (by decide +kernel) r W b hb hc

set_option maxRecDepth 100000 in
theorem dirs_any (r : Nat) (w : World) : Calls Try.prog 20 #[.int .i32 (r : Int)] w fun e w' => e = .returned (.tuple #[.int .u8 (cls dirsL r : Nat), .int .i32 (endFrom dirsL r : Nat)]) ∧ Below w.heap.size w w' :=
  table_calls (tR := 21) (tU := 5) (tT := 28) (tE := 39) (tA := 44) (tS := 42) (seek := 29) (p0 := "tables.go:92") (p1 := "tables.go:93") (p2 := "tables.go:130") (L := dirsL)
    Try.func20 (by kernel_rfl) rfl (by kernel_rfl) ⟨fun _ _ => by kernel_rfl, by kernel_rfl, by kernel_rfl, by kernel_rfl, by kernel_rfl⟩ r w _ _ (enters_of Try.func29 (by kernel_rfl) rfl)
    fun W b _ hb _ hc => seek_any dirsL (by decide +kernel) (by decide +kernel) (by decide +kernel) (by decide +kernel) r W b hb hc

set_option maxRecDepth 100000 in
theorem widths_any (r : Nat) (w : World) : Calls Try.prog 21 #[.int .i32 (r : Int)] w fun e w' => e = .returned (.tuple #[.int .u8 (cls widthsL r : Nat), .int .i32 (endFrom widthsL r : Nat)]) ∧ Below w.heap.size w w' :=
  table_calls (tR := 21) (tU := 5) (tT := 28) (tE := 39) (tA := 45) (tS := 42) (seek := 29) (p0 := "tables.go:134") (p1 := "tables.go:135") (p2 := "tables.go:155") (L := widthsL)
    Try.func21 (by kernel_rfl) rfl (by kernel_rfl) ⟨fun _ _ => by kernel_rfl, by kernel_rfl, by kernel_rfl, by kernel_rfl, by kernel_rfl⟩ r w _ _ (enters_of Try.func29 (by kernel_rfl) rfl)
    fun W b _ hb _ hc => seek_any widthsL (by decide +kernel) (by decide +kernel) (by decide +kernel) (by decide +kernel) r W b hb hc

set_option maxRecDepth 100000 in
theorem marks_any (r : Nat) (w : World) : Calls Try.prog 23 #[.int .i32 (r : Int)] w fun e w' => e = .returned (.tuple #[.int .u8 (cls marksL r : Nat), .int .i32 (endFrom marksL r : Nat)]) ∧ Below w.heap.size w w' :=
  table_calls (tR := 21) (tU := 5) (tT := 28) (tE := 39) (tA := 46) (tS := 42) (seek := 29) (p0 := "tables.go:159") (p1 := "tables.go:160") (p2 := "tables.go:177") (L := marksL)
    Try.func23 (by kernel_rfl) rfl (by kernel_rfl) ⟨fun _ _ => by kernel_rfl, by kernel_rfl, by kernel_rfl, by kernel_rfl, by kernel_rfl⟩ r w _ _ (enters_of Try.func29 (by kernel_rfl) rfl)
    fun W b _ hb _ hc => seek_any marksL (by decide +kernel) (by decide +kernel) (by decide +kernel) (by decide +kernel) r W b hb hc

set_option maxRecDepth 100000 in
theorem joins_any (r : Nat) (w : World) : Calls Try.prog 24 #[.int .i32 (r : Int)] w fun e w' => e = .returned (.tuple #[.int .u8 (cls joinsL r : Nat), .int .i32 (endFrom joinsL r : Nat)]) ∧ Below w.heap.size w w' :=
  table_calls (tR := 21) (tU := 5) (tT := 28) (tE := 39) (tA := 47) (tS := 42) (seek := 29) (p0 := "tables.go:181") (p1 := "tables.go:182") (p2 := "tables.go:200") (L := joinsL)
    Try.func24 (by kernel_rfl) rfl (by kernel_rfl) ⟨fun _ _ => by kernel_rfl, by kernel_rfl, by kernel_rfl, by kernel_rfl, by kernel_rfl⟩ r w _ _ (enters_of Try.func29 (by kernel_rfl) rfl)
    fun W b _ hb _ hc => seek_any joinsL (by decide +kernel) (by decide +kernel) (by decide +kernel) (by decide +kernel) r W b hb hc

set_option maxRecDepth 100000 in
theorem breaks_any (r : Nat) (w : World) : Calls Try.prog 25 #[.int .i32 (r : Int)] w fun e w' => e = .returned (.tuple #[.int .u8 (cls breaksL r : Nat), .int .i32 (endFrom breaksL r : Nat)]) ∧ Below w.heap.size w w' :=
  table_calls (tR := 21) (tU := 5) (tT := 28) (tE := 39) (tA := 48) (tS := 42) (seek := 29) (p0 := "tables.go:204") (p1 := "tables.go:205") (p2 := "tables.go:257") (L := breaksL)
    Try.func25 (by kernel_rfl) rfl (by kernel_rfl) ⟨fun _ _ => by kernel_rfl, by kernel_rfl, by kernel_rfl, by kernel_rfl, by kernel_rfl⟩ r w _ _ (enters_of Try.func29 (by kernel_rfl) rfl)
    fun W b _ hb _ hc => seek_any breaksL (by decide +kernel) (by decide +kernel) (by decide +kernel) (by decide +kernel) r W b hb hc

end Go.Proofs.Ythakdkpgobloiaa
