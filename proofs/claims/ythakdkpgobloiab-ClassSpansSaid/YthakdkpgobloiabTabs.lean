/- The six tables of package class: what each says of a number. Written by a program of mine (tools/mkdata.py). -/
import Derived.Test.YthakdkpgobloiabSeek
import Derived.Test.YthakdkpgobloiabData
namespace Go.Proofs.Ythakdkpgobloiab
open Go.RowKit

set_option maxRecDepth 100000 in
theorem kinds_any (r : Nat) (w : World) : Calls Try.prog 40 #[.int .i32 (r : Int)] w fun e w' => e = .returned (.tuple #[.int .u8 (cls kindsL r : Nat), .int .i32 (endFrom kindsL r : Nat)]) ∧ Below w.heap.size w w' :=
  table_calls (tR := 21) (tU := 5) (tT := 53) (tE := 60) (tA := 61) (tS := 63) (seek := 51) (p0 := "tables.go:48") (p1 := "tables.go:49") (p2 := "tables.go:88") (L := kindsL)
    Try.func40 (by kernel_rfl) rfl (by kernel_rfl) ⟨fun _ _ => by kernel_rfl, by kernel_rfl, by kernel_rfl, by kernel_rfl, by kernel_rfl⟩ r w _ _ (enters_of Try.func51 (by kernel_rfl) rfl)
    fun W b _ hb _ hc => seek_any kindsL (by decide +kernel) (by decide +kernel) (by decide +kernel) (by decide +kernel) r W b hb hc

set_option maxRecDepth 100000 in
theorem dirs_any (r : Nat) (w : World) : Calls Try.prog 42 #[.int .i32 (r : Int)] w fun e w' => e = .returned (.tuple #[.int .u8 (cls dirsL r : Nat), .int .i32 (endFrom dirsL r : Nat)]) ∧ Below w.heap.size w w' :=
  table_calls (tR := 21) (tU := 5) (tT := 53) (tE := 60) (tA := 64) (tS := 63) (seek := 51) (p0 := "tables.go:92") (p1 := "tables.go:93") (p2 := "tables.go:130") (L := dirsL)
    Try.func42 (by kernel_rfl) rfl (by kernel_rfl) ⟨fun _ _ => by kernel_rfl, by kernel_rfl, by kernel_rfl, by kernel_rfl, by kernel_rfl⟩ r w _ _ (enters_of Try.func51 (by kernel_rfl) rfl)
    fun W b _ hb _ hc => seek_any dirsL (by decide +kernel) (by decide +kernel) (by decide +kernel) (by decide +kernel) r W b hb hc

set_option maxRecDepth 100000 in
theorem widths_any (r : Nat) (w : World) : Calls Try.prog 44 #[.int .i32 (r : Int)] w fun e w' => e = .returned (.tuple #[.int .u8 (cls widthsL r : Nat), .int .i32 (endFrom widthsL r : Nat)]) ∧ Below w.heap.size w w' :=
  table_calls (tR := 21) (tU := 5) (tT := 53) (tE := 60) (tA := 66) (tS := 63) (seek := 51) (p0 := "tables.go:134") (p1 := "tables.go:135") (p2 := "tables.go:155") (L := widthsL)
    Try.func44 (by kernel_rfl) rfl (by kernel_rfl) ⟨fun _ _ => by kernel_rfl, by kernel_rfl, by kernel_rfl, by kernel_rfl, by kernel_rfl⟩ r w _ _ (enters_of Try.func51 (by kernel_rfl) rfl)
    fun W b _ hb _ hc => seek_any widthsL (by decide +kernel) (by decide +kernel) (by decide +kernel) (by decide +kernel) r W b hb hc

set_option maxRecDepth 100000 in
theorem marks_any (r : Nat) (w : World) : Calls Try.prog 45 #[.int .i32 (r : Int)] w fun e w' => e = .returned (.tuple #[.int .u8 (cls marksL r : Nat), .int .i32 (endFrom marksL r : Nat)]) ∧ Below w.heap.size w w' :=
  table_calls (tR := 21) (tU := 5) (tT := 53) (tE := 60) (tA := 67) (tS := 63) (seek := 51) (p0 := "tables.go:159") (p1 := "tables.go:160") (p2 := "tables.go:177") (L := marksL)
    Try.func45 (by kernel_rfl) rfl (by kernel_rfl) ⟨fun _ _ => by kernel_rfl, by kernel_rfl, by kernel_rfl, by kernel_rfl, by kernel_rfl⟩ r w _ _ (enters_of Try.func51 (by kernel_rfl) rfl)
    fun W b _ hb _ hc => seek_any marksL (by decide +kernel) (by decide +kernel) (by decide +kernel) (by decide +kernel) r W b hb hc

set_option maxRecDepth 100000 in
theorem joins_any (r : Nat) (w : World) : Calls Try.prog 43 #[.int .i32 (r : Int)] w fun e w' => e = .returned (.tuple #[.int .u8 (cls joinsL r : Nat), .int .i32 (endFrom joinsL r : Nat)]) ∧ Below w.heap.size w w' :=
  table_calls (tR := 21) (tU := 5) (tT := 53) (tE := 60) (tA := 65) (tS := 63) (seek := 51) (p0 := "tables.go:181") (p1 := "tables.go:182") (p2 := "tables.go:200") (L := joinsL)
    Try.func43 (by kernel_rfl) rfl (by kernel_rfl) ⟨fun _ _ => by kernel_rfl, by kernel_rfl, by kernel_rfl, by kernel_rfl, by kernel_rfl⟩ r w _ _ (enters_of Try.func51 (by kernel_rfl) rfl)
    fun W b _ hb _ hc => seek_any joinsL (by decide +kernel) (by decide +kernel) (by decide +kernel) (by decide +kernel) r W b hb hc

set_option maxRecDepth 100000 in
theorem breaks_any (r : Nat) (w : World) : Calls Try.prog 46 #[.int .i32 (r : Int)] w fun e w' => e = .returned (.tuple #[.int .u8 (cls breaksL r : Nat), .int .i32 (endFrom breaksL r : Nat)]) ∧ Below w.heap.size w w' :=
  table_calls (tR := 21) (tU := 5) (tT := 53) (tE := 60) (tA := 68) (tS := 63) (seek := 51) (p0 := "tables.go:204") (p1 := "tables.go:205") (p2 := "tables.go:257") (L := breaksL)
    Try.func46 (by kernel_rfl) rfl (by kernel_rfl) ⟨fun _ _ => by kernel_rfl, by kernel_rfl, by kernel_rfl, by kernel_rfl, by kernel_rfl⟩ r w _ _ (enters_of Try.func51 (by kernel_rfl) rfl)
    fun W b _ hb _ hc => seek_any breaksL (by decide +kernel) (by decide +kernel) (by decide +kernel) (by decide +kernel) r W b hb hc

end Go.Proofs.Ythakdkpgobloiab
