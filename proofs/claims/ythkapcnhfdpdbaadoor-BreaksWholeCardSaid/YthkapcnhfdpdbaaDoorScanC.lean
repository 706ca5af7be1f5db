/- The program's package scan: numbers as a text; what the document says of a few texts (wakes). -/
import Derived.Test.YthkapcnhfdpdbaaDoorScanB
import Derived.Test.YthkapcnhfdpdbaaDoorMem
set_option linter.unusedSimpArgs false
set_option linter.unusedVariables false
namespace Go.Proofs.YthkapcnhfdpdbaaDoor
open Go.RowKit Go.Lib

abbrev U8 (w : World) : Prop := Utf8Tabs 0 1 w

/-! ### the few texts -/
theorem c_next1 (w : World) (hT : U8 w) : Calls Tryd.prog 24 #[.string ⟨#[228, 184]⟩] w fun e w' => e = .returned (.tuple #[.int .i32 65533, .int .i64 1]) ∧ Below w.heap.size w w' := next_any ⟨#[228, 184]⟩ w hT
theorem c_next2 (w : World) (hT : U8 w) : Calls Tryd.prog 24 #[.string ⟨#[239, 191, 189]⟩] w fun e w' => e = .returned (.tuple #[.int .i32 65533, .int .i64 3]) ∧ Below w.heap.size w w' := next_any ⟨#[239, 191, 189]⟩ w hT
theorem c_last (w : World) (hT : U8 w) : Calls Tryd.prog 81 #[.string ⟨#[97, 195, 169]⟩] w fun e w' => e = .returned (.tuple #[.int .i32 233, .int .i64 2]) ∧ Below w.heap.size w w' := by
  have h := last_any ⟨#[97, 195, 169]⟩ w (by decide) hT
  have e : decodeLastL (⟨#[97, 195, 169]⟩ : ByteArray).data.toList = (233, 2) := by decide
  rw [e] at h
  exact h
end Go.Proofs.YthkapcnhfdpdbaaDoor
