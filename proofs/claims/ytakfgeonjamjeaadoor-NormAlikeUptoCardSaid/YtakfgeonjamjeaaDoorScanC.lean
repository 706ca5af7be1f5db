/- The program's package scan: numbers as a text; what the document says of a few texts (wakes). -/
import Derived.Test.YtakfgeonjamjeaaDoorScanB
import Derived.Test.YtakfgeonjamjeaaDoorMem
namespace Go.Proofs.YtakfgeonjamjeaaDoor
open Go.RowKit Go.Lib

abbrev U8 (w : World) : Prop := Utf8Tabs 0 1 w

/-! ### the few texts -/
theorem c_next1 (w : World) (hT : U8 w) : Calls Tryd.prog 32 #[.string ⟨#[228, 184]⟩] w fun e w' => e = .returned (.tuple #[.int .i32 65533, .int .i64 1]) ∧ Below w.heap.size w w' := next_any ⟨#[228, 184]⟩ w hT
theorem c_next2 (w : World) (hT : U8 w) : Calls Tryd.prog 32 #[.string ⟨#[239, 191, 189]⟩] w fun e w' => e = .returned (.tuple #[.int .i32 65533, .int .i64 3]) ∧ Below w.heap.size w w' := next_any ⟨#[239, 191, 189]⟩ w hT
theorem c_runes (w : World) : Calls Tryd.prog 29 #[.string ⟨#[97, 255, 195, 169]⟩] w fun e w' =>
    ∃ g c : Nat, e = .returned (.slice (some ⟨g, 0, none⟩) 3 c) ∧ w'.cell? ⟨g, 1, none⟩ = some (.int .i32 65533) ∧ w'.cell? ⟨g, 2, none⟩ = some (.int .i32 233) ∧ Below w.heap.size w w' := by
  have e : runesOf (⟨#[97, 255, 195, 169]⟩ : ByteArray).data.toList = [97, 65533, 233] := by decide
  have h := runes_any ⟨#[97, 255, 195, 169]⟩ w (by rw [e]; decide)
  rw [e] at h
  refine h.mono ?_
  rintro e w' ⟨v, rfl, hown, hb⟩
  obtain ⟨g, cap, rfl, _, _⟩ := hown.form (by simp)
  have h1 := hown.cells (g := g) rfl 1 (.int .i32 65533) rfl
  have h2 := hown.cells (g := g) rfl 2 (.int .i32 233) rfl
  rw [Addr.add_lit] at h1 h2
  exact ⟨g, cap, rfl, h1, h2, hb⟩
end Go.Proofs.YtakfgeonjamjeaaDoor
